/- What the document's put does. Condition: the bytes are there. -/
import Derived.Test.YtidnbpehhpakcaaNorM
import Derived.StillTailTactics
namespace Go.Proofs.Ytidnbpehhpakcaa
open Go.RowKit

/-- Block B reads as the bytes l, none of them frozen. -/
def Row (w : World) (B : Nat) (l : List UInt8) : Prop :=
  ∀ j, j < l.length → w.cell? ⟨B, j, none⟩ = some (.int .u8 ((l.getD j 0).toNat : Int)) ∧ w.frozen? ⟨B, j, none⟩ = false
theorem row_set {w : World} {B : Nat} {l : List UInt8} (h : Row w B l) (k : Nat) (hk : k < l.length) (x : UInt8) : Row (w.setCell ⟨B, k, none⟩ (.int .u8 (x.toNat : Int))) B (l.set k x) := by
  intro j hj
  rw [List.length_set] at hj
  obtain ⟨h1, h2⟩ := h j hj
  refine ⟨?_, (World.frozen?_setCell w _ _ _).trans h2⟩
  by_cases e : k = j
  · subst e
    rw [World.cell?_setCell_same w _ _ (h k hk).1]
    simp [List.getD, hk]
  · rw [World.cell?_setCell_other w _ _ _ (fun he => e (congrArg Addr.off he)), h1]
    simp [List.getD, List.getElem?_set_ne e]
theorem row_new (w : World) (s : ByteArray) (cap : Nat) (t : TypeId) : Row (w.alloc (.cells (bytesRow s cap) t ((bytesRow s cap).size, (bytesRow s cap).size + 1))) w.heap.size s.data.toList := by
  intro j hj
  have hj' : j < s.data.size := by simpa using hj
  refine ⟨?_, ?_⟩
  · rw [World.cell?_alloc_mark, bytesRow_at s cap j hj']
    simp [List.getD, Array.getElem?_eq_getElem hj']
  · rw [World.frozen?_alloc_mark]
    have : ¬ (bytesRow s cap).size ≤ j := by
      unfold bytesRow
      rw [Array.size_append, Array.size_map]
      omega
    simp [this]
theorem row_back {w : World} {B : Nat} {l : List UInt8} (h : Row w B l) (cap : Nat) :
    (convert 82 9 (.slice (some ⟨B, 0, none⟩) l.length cap)).run Try.prog w = .ok (.string ⟨l.toArray⟩) w :=
  run_convert_bytes_back w 82 9 5 ⟨B, 0, none⟩ cap l Try.underlying82 Try.underlying5 Try.underlying9 (fun j hj => by
    have e : (⟨B, 0, none⟩ : Addr).add j = ⟨B, j, none⟩ := by unfold Addr.add; split <;> simp_all
    rw [e, (h j hj).1, getD_lt _ hj])
theorem Row.block {w w' : World} {B : Nat} {l : List UInt8} (h : Row w B l) (hb : w'.heap[B]? = w.heap[B]?) : Row w' B l := fun j hj => by
  obtain ⟨h1, h2⟩ := h j hj
  refine ⟨by rw [World.cell?_of_block (a := ⟨B, j, none⟩) hb]; exact h1, ?_⟩
  unfold World.frozen? at h2 ⊢
  rw [show w'.heap[(⟨B, j, none⟩ : Addr).block]? = w.heap[(⟨B, j, none⟩ : Addr).block]? from hb]
  exact h2

set_option maxHeartbeats 1600000 in
set_option maxRecDepth 100000 in
theorem put_any (g gb cap a n : Nat) (S : ByteArray) (on : Bool) (fu : Int) (t : ByteArray) (ops : Int) (l : List UInt8) (w : World) (hA : Arr w g 65 (refC S on fu t ops)) (hn : l.length = n) (hr : Row w gb l) (ha : a + n ≤ S.size) (hS : S.size = 24576) :
    Calls Try.prog 62 #[.pointer (some ⟨g, 0, none⟩), .int .i64 (a : Int), .slice (some ⟨gb, 0, none⟩) n cap] w fun e w' =>
      e = .returned (.tuple #[]) ∧ Arr w' g 65 (refC ((S.extract 0 a) ++ (⟨l.toArray⟩ : ByteArray) ++ (S.extract (a + n) 24576)) on fu t ops) ∧ w.grownBy w' (some g) := by
  have hcv : (convert 82 9 (.slice (some ⟨gb, 0, none⟩) n cap)).run Try.prog w = .ok (.string ⟨l.toArray⟩) w := by have := row_back hr cap; rwa [hn] at this
  have hcv2 : (convert 82 9 (.slice (some ⟨gb, 0, none⟩) n cap)).run Try.prog w.drew = .ok (.string ⟨l.toArray⟩) w.drew := by have := row_back (w := w.drew) (fun j hj => hr j hj) cap; rwa [hn] at this
  have ha1 : (a : Int) ≤ 24576 := by omega
  have ha2 : (a : Int) + n ≤ 24576 := by omega
  have hc := ref_B hA
  have hf := hA.frozen 0
  have HA := Lib.hid hA
  have hM : (⟨l.toArray⟩ : ByteArray).size = n := by rw [arr_size']; exact hn
  generalize (⟨l.toArray⟩ : ByteArray) = M at *
  have hcc1 : ¬ (9223372036854775807 < min a 24576 + n) := by omega
  have hcc2 : ¬ (9223372036854775807 < min a 24576 + n + (24576 - (a + n))) := by omega
  clear hA hr hn
  go_enter Try.func62, Try.ntmps62
  go_wp2
  go_region
  go_end0
  exact ⟨rfl, ref_setB HA.out _, grown_trans (grown_cell _ _ _ _) (grown_below (below_drewN _ 1))⟩
theorem str_put (B l : List UInt8) (a n : Nat) (hB : B.length = 24576) : ((⟨B.toArray⟩ : ByteArray).extract 0 a ++ (⟨l.toArray⟩ : ByteArray) ++ (⟨B.toArray⟩ : ByteArray).extract (a + n) 24576) = ⟨(B.take a ++ l ++ B.drop (a + n)).toArray⟩ := by
  have e : ((⟨B.toArray⟩ : ByteArray).extract 0 a ++ (⟨l.toArray⟩ : ByteArray) ++ (⟨B.toArray⟩ : ByteArray).extract (a + n) 24576).data = (B.take a ++ l ++ B.drop (a + n)).toArray := by
    rw [ByteArray.data_append, ByteArray.data_append, ByteArray.data_extract, ByteArray.data_extract]
    apply Array.ext'
    simp
    rw [List.take_of_length_le (by rw [List.length_drop]; omega)]
  rw [← e]
theorem put_map (B : List UInt8) (a n : Nat) (F : Nat → UInt8 → UInt8) (h : a + n ≤ B.length) : B.take a ++ mapAt ((B.drop a).take n) 0 n F ++ B.drop (a + n) = mapAt B a n F := by
  have hl : (mapAt ((B.drop a).take n) 0 n F).length = n := by rw [mapAt_length, List.length_take, List.length_drop]; omega
  have ht : (B.take a).length = a := by rw [List.length_take]; omega
  refine List.ext_getElem (by rw [List.length_append, List.length_append, hl, ht, List.length_drop, mapAt_length]; omega) fun j h1 h2 => ?_
  rw [mapAt_get]
  rw [mapAt_length] at h2
  by_cases c1 : j < a
  · rw [List.getElem_append_left (by rw [List.length_append]; omega), List.getElem_append_left (by omega), List.getElem_take, if_neg (by omega)]
  · by_cases c2 : j < a + n
    · rw [List.getElem_append_left (by rw [List.length_append]; omega), List.getElem_append_right (by omega), mapAt_get, if_pos (by omega), if_pos (by omega), List.getElem_take, List.getElem_drop]
      simp only [ht, Nat.sub_zero]
      congr 2
      omega
    · rw [List.getElem_append_right (by rw [List.length_append]; omega), if_neg (by omega), List.getElem_drop]
      simp only [List.length_append, ht, hl]
      congr 1
      omega
end Go.Proofs.Ytidnbpehhpakcaa
