/- What num.Bigs and the document's own Bigs return for every slice of at most 2^40 numbers, and what the document's SameInts returns for two slices of the same numbers. -/
import Derived.Test.YtjohbbaoaffgnaaDoorNumA
import Derived.Test.YtjohbbaoaffgnaaDoorShelf
namespace Go.Proofs.YtjohbbaoaffgnaaDoor
open Go.RowKit

/-- The slice at A reads as the numbers l, in blocks below B. -/
def RdI (B : Nat) (w : World) (A : Option Addr) (l : List Int) : Prop :=
  l = [] ∨ ∃ b off, A = some ⟨b, off, none⟩ ∧ b < B ∧ ∀ k, k < l.length → w.cell? ⟨b, off + k, none⟩ = some (.int .i64 (l.getD k 0))
theorem RdI.at_ {B : Nat} {w : World} {A : Option Addr} {l : List Int} (h : RdI B w A l) {k : Nat} (hk : k < l.length) :
    ∃ b off x, A = some ⟨b, off, none⟩ ∧ b < B ∧ w.cell? ⟨b, off + k, none⟩ = some (.int .i64 x) ∧ Hid (l.getD k 0 = x) := by
  rcases h with rfl | ⟨b, off, rfl, hb, hc⟩
  · simp at hk
  · exact ⟨b, off, _, rfl, hb, hc k hk, rfl⟩
theorem RdI.below {B : Nat} {w w' : World} {A : Option Addr} {l : List Int} (h : RdI B w A l) (hb : Below B w w') : RdI B w' A l := by
  rcases h with h | ⟨b, off, rfl, hlt, hc⟩
  · exact .inl h
  · exact .inr ⟨b, off, rfl, hlt, fun k hk => (hb.cell (p := ⟨b, off + k, none⟩) hlt).trans (hc k hk)⟩
theorem RdI.mono {B B' : Nat} {w : World} {A : Option Addr} {l : List Int} (h : RdI B w A l) (hB : B ≤ B') : RdI B' w A l := by
  rcases h with h | ⟨b, off, rfl, hlt, hc⟩
  · exact .inl h
  · exact .inr ⟨b, off, rfl, by omega, hc⟩

theorem isBuilder_below {T e : TypeId} {B b : Nat} {bs : List Value} {w w' : World} (h : Lib.IsBuilder T e B b bs w) (hb : Below w.heap.size w w') : Lib.IsBuilder T e B b bs w' := by
  have H : ∀ p, Lib.BuilderAt T e B b p bs w → Lib.BuilderAt T e B b p bs w' := fun p h => by
    have hlt := h.lt
    obtain ⟨h1, v, h2, h3, h4⟩ := h
    exact ⟨h1, v, (hb.block b hlt).trans h2, ownsRow_below h3 hb, h4⟩
  rcases h with h | h
  · exact .inl (H _ h)
  · exact .inr (H _ h)

def bigs (l : List Int) (k : Nat) : List UInt8 := (l.take k).flatMap big
theorem bigs_zero (l : List Int) : bigs l 0 = [] := rfl
theorem bigs_succ (l : List Int) (k : Nat) (h : k < l.length) : bigs l (k + 1) = bigs l k ++ big (l.getD k 0) := by
  unfold bigs
  rw [List.take_succ_eq_append_getElem h, List.flatMap_append]
  simp [List.getD, List.getElem?_eq_getElem h]
theorem big_length (n : Int) : (big n).length = 4 := rfl
theorem bigs_length (l : List Int) : ∀ k, k ≤ l.length → (bigs l k).length = 4 * k
  | 0, _ => rfl
  | k + 1, h => by rw [bigs_succ l k (by omega), List.length_append, bigs_length l k (by omega), big_length]; omega
theorem size_mk (l : List UInt8) : (ByteArray.mk l.toArray).size = l.length := by show l.toArray.size = _; simp

set_option maxHeartbeats 800000 in
set_option maxRecDepth 100000 in
theorem bigs_any (A : Option Addr) (cap : Nat) (l : List Int) (w : World) (hl : l.length ≤ 1099511627776) (hr : RdI w.heap.size w A l) :
    Calls Tryd.prog 13 #[.slice A l.length cap] w fun e w' => e = .returned (.string ⟨(bigs l l.length).toArray⟩) ∧ Below w.heap.size w w' := by
  have hI0 := Lib.fresh_isBuilder 44 5 w
  go_enter Tryd.func13, Tryd.ntmps13
  go_wp2
  go_loopw [8] (fun i wr => ∃ k : Nat, k ≤ l.length ∧ i = .int .i64 k ∧ Lib.IsBuilder 44 5 w.heap.size w.heap.size (Lib.byteCells (bigs l k)) wr ∧ Below w.heap.size w wr)
    (fun i _ => l.length - (intOf i).toNat)
  case atStart => exact ⟨0, Nat.zero_le _, rfl, hI0, (Below.refl _ _).alloc (Nat.le_refl _) _⟩
  case round =>
    obtain ⟨k, hk, rfl, hI, hb⟩ := hrel
    clear hI0
    have hsz := hb.size
    by_cases hlt : k < l.length
    · obtain ⟨b, off, x, rfl, hbl, hc, HX⟩ := (hr.below hb).at_ hlt
      have hbs := bigs_length l k hk
      have hbc : (Lib.byteCells (bigs l k)).length = 4 * k := by rw [Lib.byteCells_length, hbs]
      have HS := Lib.hid (bigs_succ l k hlt)
      have HB := Lib.hid hbc
      clear hbs hbc
      go_wp2_with fail
      refine (big_any _ _).mono ?_
      rintro e w1 ⟨rfl, hb1⟩
      have hI1 := isBuilder_below hI hb1
      have hs1 := hb1.size
      go_wp2_with fail
      refine (Tryd.Builder_WriteString w.heap.size w.heap.size _ _ _ hI1 (by rw [HB.out, size_mk, big_length]; omega) (by omega)).mono ?_
      rintro e w2 ⟨rfl, hI2, hb2⟩
      have hbb : Below w.heap.size w w2 := (hb.trans (hb1.mono (by omega))).trans hb2
      clear hb hb1 hb2 hI hI1 hc
      go_wp2
      go_roundw
      case rel =>
        refine ⟨k + 1, by omega, by go_num, ?_, hbb⟩
        rw [HS.out, Lib.byteCells_append, HX.out]
        exact .inr hI2
      case measure => simp [intOf]; omega
    · have hkl : k = l.length := by omega
      subst hkl
      go_wp2_with fail
      refine (Tryd.Builder_String_any w.heap.size w.heap.size _ _ hI (by omega)).mono ?_
      rintro e w2 ⟨rfl, hb2⟩
      go_wp2
      go_ret
      exact ⟨rfl, hb.trans hb2⟩

set_option maxHeartbeats 800000 in
set_option maxRecDepth 100000 in
theorem refbigs_any (A : Option Addr) (cap : Nat) (l : List Int) (w : World) (hl : l.length ≤ 1099511627776) (hr : RdI w.heap.size w A l) :
    Calls Tryd.prog 14 #[.slice A l.length cap] w fun e w' => e = .returned (.string ⟨(bigs l l.length).toArray⟩) ∧ Below w.heap.size w w' := by
  go_enter Tryd.func14, Tryd.ntmps14
  go_wp2
  go_loopw [3, 4] (fun s i wr => ∃ k : Nat, k ≤ l.length ∧ i = .int .i64 k ∧ s = .string ⟨(bigs l k).toArray⟩ ∧ Below w.heap.size w wr)
    (fun _ i _ => l.length - (intOf i).toNat)
  case atStart => exact ⟨0, Nat.zero_le _, rfl, rfl, Below.refl _ _⟩
  case round =>
    obtain ⟨k, hk, rfl, rfl, hb⟩ := hrel
    have hsz := hb.size
    by_cases hlt : k < l.length
    · obtain ⟨b, off, x, rfl, hbl, hc, HX⟩ := (hr.below hb).at_ hlt
      have hadd : ∀ W, (Op.stringOp .add ⟨(bigs l k).toArray⟩ ⟨(big x).toArray⟩).run Tryd.prog W = .ok (.string ⟨(bigs l (k + 1)).toArray⟩) W := fun W => by
        rw [run_string_add_sum W _ _ (by rw [size_mk, size_mk, bigs_length l k hk, big_length]; omega), ByteArray.mk_append_mk, bigs_succ l k hlt, HX.out]
      go_wp2_with fail
      refine (refbig_any _ _).mono ?_
      rintro e w1 ⟨rfl, hb1⟩
      have hbb : Below w.heap.size w w1 := hb.trans (hb1.mono (by omega))
      have ha1 := hadd w1
      clear hb hb1 hc hadd
      go_wp2
      go_roundw
      case rel => exact ⟨k + 1, by omega, by go_num, rfl, hbb⟩
      case measure => simp [intOf]; omega
    · have hkl : k = l.length := by omega
      subst hkl
      go_wp2
      go_ret
      exact ⟨rfl, hb⟩
end Go.Proofs.YtjohbbaoaffgnaaDoor
