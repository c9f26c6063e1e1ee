/- What a Stream of package sha is, and what fill makes of it: conditions: at most 2^39 bytes, the piece not empty. -/
import Derived.Test.YtppfdhledmbkhaaShaI
import Derived.Test.YtppfdhledmbkhaaShaF
namespace Go.Proofs.Ytppfdhledmbkhaa
open Go.RowKit

/-- Block g is a Stream that has received the bytes L. -/
def Stm (w : World) (g : Nat) (L : List UInt8) : Prop :=
  ∃ T R, T.ok ∧ R.length = 64 ∧ (L = [] ∨ T = blks L (L.length / 64)) ∧ R.take (L.length % 64) = L.drop (64 * (L.length / 64)) ∧ Arr w g 33 (strm L.length T.list (bys R))
theorem Stm.lt {w : World} {g : Nat} {L : List UInt8} (h : Stm w g L) : g < w.heap.size := by obtain ⟨_, _, _, _, _, _, h⟩ := h; exact h.lt
theorem Stm.below {w w' : World} {g B : Nat} {L : List UInt8} (h : Stm w g L) (hb : Below B w w') (hg : g < B) : Stm w' g L := by
  obtain ⟨T, R, h1, h2, h3, h4, h5⟩ := h; exact ⟨T, R, h1, h2, h3, h4, h5.below hb hg⟩
theorem Stm.alloc {w : World} {g : Nat} {L : List UInt8} (h : Stm w g L) (o : Obj) : Stm (w.alloc o) g L := by
  obtain ⟨T, R, h1, h2, h3, h4, h5⟩ := h; exact ⟨T, R, h1, h2, h3, h4, h5.alloc o⟩
theorem Stm.grown {w w' : World} {g g' : Nat} {L : List UInt8} (h : Stm w g L) (hg : w.grownBy w' (some g')) (hne : g ≠ g') : Stm w' g L := by
  obtain ⟨T, R, h1, h2, h3, h4, h5⟩ := h; exact ⟨T, R, h1, h2, h3, h4, h5.grown hg (fun e => hne (by injection e))⟩
theorem Stm.drew {w : World} {g : Nat} {L : List UInt8} (h : Stm w g L) : Stm w.drew g L := h
/-- A Stream that has received nothing. -/
theorem Stm.new {w : World} {g : Nat} (h : Arr w g 33 (strm 0 (List.replicate 8 0) (List.replicate 64 0))) : Stm w g [] :=
  ⟨⟨0, 0, 0, 0, 0, 0, 0, 0⟩, List.replicate 64 0, ⟨by decide, by decide, by decide, by decide, by decide, by decide, by decide, by decide⟩, rfl, .inl rfl, rfl, h⟩

section
variable {L R : List UInt8} {s : ByteArray} {p n : Nat}
/-- The bytes that are not yet processed, behind a piece that does not fill them. -/
theorem part_rest (hR : R.length = 64) (hp : L.length % 64 = p) (hn : min s.size (64 - p) = n) (hr : R.take p = L.drop (64 * (L.length / 64))) (hz : (L.length + n) % 64 ≠ 0) :
    (L.length + n) / 64 = L.length / 64 ∧ (rest' R p n s).take ((L.length + n) % 64) = (L ++ s.data.toList.take n).drop (64 * ((L.length + n) / 64)) := by
  have hsl : s.data.toList.length = s.size := rfl
  have h1 : (L.length + n) / 64 = L.length / 64 := by omega
  have h2 : (L.length + n) % 64 = p + n := by omega
  refine ⟨h1, ?_⟩
  rw [h1, h2, List.drop_append_of_le_length (by omega), ← hr]
  unfold rest'
  rw [List.take_append_of_le_length (by rw [List.length_append, List.length_take, List.length_take]; omega)]
  rw [List.take_of_length_le (by rw [List.length_append, List.length_take, List.length_take]; omega)]
/-- Behind one that does. -/
theorem full_rest (hR : R.length = 64) (hp : L.length % 64 = p) (hn : min s.size (64 - p) = n) (hr : R.take p = L.drop (64 * (L.length / 64))) (hz : (L.length + n) % 64 = 0) (h0 : 0 < n) :
    (L.length + n) / 64 = L.length / 64 + 1 ∧ rest' R p n s = ((L ++ s.data.toList.take n).drop (64 * (L.length / 64))).take 64 := by
  have hsl : s.data.toList.length = s.size := rfl
  have h3 : p + n = 64 := by omega
  refine ⟨by omega, ?_⟩
  rw [List.drop_append_of_le_length (by omega), ← hr]
  unfold rest'
  rw [h3, List.drop_of_length_le (by omega), List.append_nil, List.take_of_length_le (i := 64) (l := R.take p ++ s.data.toList.take n) (by rw [List.length_append, List.length_take, List.length_take]; omega)]
end
theorem fill_spec (g : Nat) (L : List UInt8) (s : ByteArray) (w : World) (h : Stm w g L) (hL : L.length ≤ 549755813888) (hs0 : 0 < s.size) (hs : s.size ≤ 549755813888) (n : Nat) (hn : min s.size (64 - L.length % 64) = n) :
    Calls Try.prog 16 #[.pointer (some ⟨g, 0, none⟩), .string s] w fun e w' => e = .returned (.string (s.extract n s.size)) ∧ Stm w' g (L ++ s.data.toList.take n) ∧ w.grownBy w' (some g) := by
  obtain ⟨T, R, hT, hR, hB, hr, hA⟩ := h
  have hsl : s.data.toList.length = s.size := rfl
  have hn0 : 0 < n := by omega
  have hln : (L ++ s.data.toList.take n).length = L.length + n := by rw [List.length_append, List.length_take]; omega
  have hRL := rest_length (R := R) (s := s) (p := L.length % 64) (n := n) hR (by omega) hn
  have hne : L ++ s.data.toList.take n ≠ [] := fun e => by rw [e] at hln; simp at hln; omega
  by_cases hz : (L.length + n) % 64 = 0
  · obtain ⟨e1, e2⟩ := full_rest hR rfl hn hr hz hn0
    have key : ∀ T1 : S8, T1 = blks (L ++ s.data.toList.take n) (L.length / 64) → ∀ w', Arr w' g 33 (strm (L.length + n) (mixP T1 (rest' R (L.length % 64) n s)).list (bys (rest' R (L.length % 64) n s))) → Stm w' g (L ++ s.data.toList.take n) := by
      intro T1 hT1 w' hA'
      refine ⟨mixP T1 (rest' R (L.length % 64) n s), rest' R (L.length % 64) n s, mixP_ok _ _, hRL, .inr ?_, ?_, by rw [hln]; exact hA'⟩
      · rw [hln, e1, blks_succ, ← e2, hT1]
      · rw [hln, hz, List.take_zero, List.drop_of_length_le (by rw [hln]; omega)]
    by_cases hc : L.length = 0
    · refine (fill_f0 g L.length T R s w hA hR (by omega) hc (by omega) _ n rfl hn hz).mono ?_
      rintro e w' ⟨he, hA', hg⟩
      refine ⟨he, key s0 ?_ w' hA', hg⟩
      rw [hc]; rfl
    · refine (fill_f g L.length T R s w hA hT hR (by omega) (by omega) (by omega) _ n rfl hn hz).mono ?_
      rintro e w' ⟨he, hA', hg⟩
      refine ⟨he, key T ?_ w' hA', hg⟩
      rcases hB with hB | hB
      · rw [hB] at hc; exact absurd rfl hc
      · rw [blks_append _ _ _ (by omega)]; exact hB
  · obtain ⟨e1, e2⟩ := part_rest hR rfl hn hr hz
    have key : ∀ T1 : S8, T1.ok → T1 = blks (L ++ s.data.toList.take n) (L.length / 64) → ∀ w', Arr w' g 33 (strm (L.length + n) T1.list (bys (rest' R (L.length % 64) n s))) → Stm w' g (L ++ s.data.toList.take n) := by
      intro T1 hok hT1 w' hA'
      refine ⟨T1, rest' R (L.length % 64) n s, hok, hRL, .inr ?_, ?_, by rw [hln]; exact hA'⟩
      · rw [hln, e1, hT1]
      · rw [hln]; exact e2
    by_cases hc : L.length = 0
    · refine (fill_p0 g L.length T R s w hA hR (by omega) hc (by omega) _ n rfl hn hz).mono ?_
      rintro e w' ⟨he, hA', hg⟩
      refine ⟨he, key s0 s0_ok ?_ w' hA', hg⟩
      rw [hc]; rfl
    · refine (fill_p g L.length T R s w hA hR (by omega) (by omega) (by omega) _ n rfl hn hz).mono ?_
      rintro e w' ⟨he, hA', hg⟩
      refine ⟨he, key T hT ?_ w' hA', hg⟩
      rcases hB with hB | hB
      · rw [hB] at hc; exact absurd rfl hc
      · rw [blks_append _ _ _ (by omega)]; exact hB
end Go.Proofs.Ytppfdhledmbkhaa
