/- What num.Bigs returns for every slice of at most 2^40 numbers. -/
import Derived.Test.YtbkfkbacejhpeaaNumR
import Derived.Test.YtbkfkbacejhpeaaShelf
namespace Go.Proofs.Ytbkfkbacejhpeaa
open Go.RowKit

theorem isBuilder_below {T e : TypeId} {B b : Nat} {bs : List Value} {w w' : World} (h : Lib.IsBuilder T e B b bs w) (hb : Below w.heap.size w w') : Lib.IsBuilder T e B b bs w' := by
  have H : ∀ p, Lib.BuilderAt T e B b p bs w → Lib.BuilderAt T e B b p bs w' := fun p h => by
    have hlt := h.lt
    obtain ⟨h1, v, h2, h3, h4⟩ := h
    exact ⟨h1, v, (hb.block b hlt).trans h2, ownsRow_below h3 hb, h4⟩
  rcases h with h | h
  · exact .inl (H _ h)
  · exact .inr (H _ h)

set_option maxHeartbeats 800000 in
set_option maxRecDepth 100000 in
theorem bigs_any (A : Option Addr) (cap : Nat) (l : List Int) (w : World) (hl : l.length ≤ 1099511627776) (hr : RdI w.heap.size w A l) :
    Calls Try.prog 15 #[.slice A l.length cap] w fun e w' => e = .returned (.string ⟨(bigs l l.length).toArray⟩) ∧ Below w.heap.size w w' := by
  have hI0 := Lib.fresh_isBuilder 53 5 w
  go_enter Try.func15, Try.ntmps15
  go_wp2
  go_loopw [8] (fun i wr => ∃ k : Nat, k ≤ l.length ∧ i = .int .i64 k ∧ Lib.IsBuilder 53 5 w.heap.size w.heap.size (Lib.byteCells (bigs l k)) wr ∧ Below w.heap.size w wr)
    (fun i _ => l.length - (intOf i).toNat)
  case atStart => exact ⟨0, Nat.zero_le _, rfl, hI0, (Below.refl _ _).alloc (Nat.le_refl _) _⟩
  case round =>
    obtain ⟨k, hk, rfl, hI, hb⟩ := hrel
    clear hI0
    have hsz := hb.size
    by_cases hlt : k < l.length
    · obtain ⟨b, off, x, rfl, hbl, hc, HX⟩ := (hr.below hb).at_ hlt
      have hbs := bigs_length l k hk
      have hbc : (Lib.byteCells (bigs l k)).length = 4 * k := by rw [Lib.byteCells_length, hbs]
      have HS := Lib.hid (bigs_succ l k hlt)
      have HB := Lib.hid hbc
      clear hbs hbc
      go_wp2_with fail
      refine (big_any _ _).mono ?_
      rintro e w1 ⟨rfl, hb1⟩
      have hI1 := isBuilder_below hI hb1
      have hs1 := hb1.size
      go_wp2_with fail
      refine (Try.Builder_WriteString w.heap.size w.heap.size _ _ _ hI1 (by rw [HB.out, size_mk, big_length]; omega) (by omega)).mono ?_
      rintro e w2 ⟨rfl, hI2, hb2⟩
      have hbb : Below w.heap.size w w2 := (hb.trans (hb1.mono (by omega))).trans hb2
      clear hb hb1 hb2 hI hI1 hc
      go_wp2
      go_roundw
      case rel =>
        refine ⟨k + 1, by omega, by go_num, ?_, hbb⟩
        rw [HS.out, Lib.byteCells_append, HX.out]
        exact .inr hI2
      case measure => simp [intOf]; omega
    · have hkl : k = l.length := by omega
      subst hkl
      go_wp2_with fail
      refine (Try.Builder_String_any w.heap.size w.heap.size _ _ hI (by omega)).mono ?_
      rintro e w2 ⟨rfl, hb2⟩
      go_wp2
      go_ret
      exact ⟨rfl, hb.trans hb2⟩

end Go.Proofs.Ytbkfkbacejhpeaa
