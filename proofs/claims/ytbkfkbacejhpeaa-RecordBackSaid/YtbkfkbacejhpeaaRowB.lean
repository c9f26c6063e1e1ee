/- A block that reads as bytes: laid by []byte(s), changed at one place, read back by string(b). No condition. -/
import Derived.Test.YtbkfkbacejhpeaaCrcB
import Derived.Below
import Derived.Laws.IdiomStrings
namespace Go.Proofs.Ytbkfkbacejhpeaa
open Go.RowKit

/-- Block B reads as the bytes l, none of them frozen. -/
def Row (w : World) (B : Nat) (l : List UInt8) : Prop :=
  ∀ j, j < l.length → w.cell? ⟨B, j, none⟩ = some (.int .u8 ((l.getD j 0).toNat : Int)) ∧ w.frozen? ⟨B, j, none⟩ = false
theorem row_set {w : World} {B : Nat} {l : List UInt8} (h : Row w B l) (k : Nat) (hk : k < l.length) (x : UInt8) : Row (w.setCell ⟨B, k, none⟩ (.int .u8 (x.toNat : Int))) B (l.set k x) := by
  intro j hj
  rw [List.length_set] at hj
  obtain ⟨h1, h2⟩ := h j hj
  refine ⟨?_, (World.frozen?_setCell w _ _ _).trans h2⟩
  by_cases e : k = j
  · subst e
    rw [World.cell?_setCell_same w _ _ (h k hk).1]
    simp [List.getD, hk]
  · rw [World.cell?_setCell_other w _ _ _ (fun he => e (congrArg Addr.off he)), h1]
    simp [List.getD, List.getElem?_set_ne e]
theorem row_drew {w : World} {B : Nat} {l : List UInt8} (h : Row w B l) : Row w.drew B l := h
theorem row_new (w : World) (s : ByteArray) (cap : Nat) (t : TypeId) : Row (w.alloc (.cells (bytesRow s cap) t ((bytesRow s cap).size, (bytesRow s cap).size + 1))) w.heap.size s.data.toList := by
  intro j hj
  have hj' : j < s.data.size := by simpa using hj
  refine ⟨?_, ?_⟩
  · rw [World.cell?_alloc_mark, bytesRow_at s cap j hj']
    simp [List.getD, Array.getElem?_eq_getElem hj']
  · rw [World.frozen?_alloc_mark]
    have : ¬ (bytesRow s cap).size ≤ j := by
      unfold bytesRow
      rw [Array.size_append, Array.size_map]
      omega
    simp [this]
theorem row_back {w : World} {B : Nat} {l : List UInt8} (cap : Nat) (h : Row w B l) :
    (convert 36 9 (.slice (some ⟨B, 0, none⟩) l.length cap)).run Try.prog w = .ok (.string ⟨l.toArray⟩) w :=
  run_convert_bytes_back w 36 9 5 ⟨B, 0, none⟩ cap l Try.underlying36 Try.underlying5 Try.underlying9 (fun j hj => by
    have e : (⟨B, 0, none⟩ : Addr).add j = ⟨B, j, none⟩ := by unfold Addr.add; split <;> simp_all
    rw [e, (h j hj).1]
    have e2 : l.getD j 0 = l[j] := by rw [List.getD_eq_getElem?_getD, List.getElem?_eq_getElem hj]; rfl
    rw [e2])
theorem xorb (x : UInt8) (Y : Nat) : bits .xor .u8 (x.toNat : Int) (((Y % 256 : Nat)) : Int) = ((x ^^^ b8c Y).toNat : Int) := by
  rw [u8_xor_nat _ _ (by have := x.toNat_lt; omega) (by omega), UInt8.toNat_xor, b8c_toNat]

theorem xorbI (x : UInt8) (Y : Nat) (v : Int) (hv : v = ((Y % 256 : Nat) : Int)) : bits .xor .u8 (x.toNat : Int) v = ((x ^^^ b8c Y).toNat : Int) := by
  rw [hv]; exact xorb x Y
end Go.Proofs.Ytbkfkbacejhpeaa
