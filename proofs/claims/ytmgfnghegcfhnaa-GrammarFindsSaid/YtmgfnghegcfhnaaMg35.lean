/- The document's answers for layer 13: cut, Texts, AsNumbers, AsNumber, AsTexts, AsText, and its SameTexts of the same texts. Conditions: strings of at most 2^40 bytes; slices that read as numbers, as texts. -/
import Derived.Test.YtmgfnghegcfhnaaMg31
import Derived.Test.YtmgfnghegcfhnaaMg34
import Derived.Test.YtmgfnghegcfhnaaMg5
import Derived.Test.YtmgfnghegcfhnaaMg16
import Derived.BigQuiet
import Derived.Test.YtmgfnghegcfhnaaMg15
namespace Go.Proofs.Ytmgfnghegcfhnaa
open Go.RowKit

theorem cutS_list (s : ByteArray) : (cutS s).data.toList = cutL s.data.toList := by unfold cutS; simp
theorem cutS_all {s : ByteArray} (h : z0 s.data.toList = s.size) : cutS s = s := by
  apply ByteArray.ext
  apply Array.ext'
  rw [cutS_list]
  unfold cutL
  rw [h]
  exact List.take_length
theorem cutS_ext {s : ByteArray} {k : Nat} (h : z0 s.data.toList = k) : cutS s = s.extract 0 k := by
  apply ByteArray.ext
  apply Array.ext'
  rw [cutS_list]
  have e : (s.extract 0 k).data = s.data.extract 0 k := ByteArray.data_extract
  rw [e, Array.toList_extract, List.extract_eq_take_drop, List.drop_zero, Nat.sub_zero]
  unfold cutL
  rw [h]

theorem txt_snoc (l : List ByteArray) {k : Nat} (hk : k < l.length) {x : ByteArray} (hx : l.getD k ByteArray.empty = x) : txtB (l.take (k + 1)) = txtB (l.take k) ++ (cutL x.data.toList ++ [0]) := by
  have e : l.take (k + 1) = l.take k ++ [x] := by
    rw [List.take_succ_eq_append_getElem hk, ← hx, List.getD_eq_getElem?_getD, List.getElem?_eq_getElem hk]; rfl
  rw [e]
  unfold txtB
  rw [List.flatMap_append]; simp
theorem str_add {x y z : ByteArray} (hz : z.data.toList = x.data.toList ++ y.data.toList) (h : x.size + y.size ≤ 1099511627776) (W : World) : (Op.stringOp .add x y).run Try.prog W = .ok (.string z) W := by
  obtain ⟨⟨a⟩⟩ := x
  obtain ⟨⟨b⟩⟩ := y
  obtain ⟨⟨c⟩⟩ := z
  obtain rfl : c = a ++ b := hz
  have := run_string_add_sum (P := Try.prog) W ⟨a.toArray⟩ ⟨b.toArray⟩ (by
    have h' : a.length + b.length ≤ 1099511627776 := h
    show a.length + b.length ≤ 9223372036854775807
    omega)
  rw [ByteArray.mk_append_mk] at this
  exact this

end Go.Proofs.Ytmgfnghegcfhnaa

/- The document's answers for layer 13, on: AsNumbers, AsNumber, AsTexts, AsText; its SameTexts of the same texts. Conditions: strings of at most 2^40 bytes. -/
namespace Go.Proofs.Ytmgfnghegcfhnaa
open Go.RowKit

theorem nil_of_size {v : ByteArray} (h : v.size = 0) : v = ⟨#[]⟩ := by
  apply ByteArray.ext
  apply Array.ext'
  exact List.length_eq_zero_iff.1 h
theorem ne_nil_of {v : ByteArray} (h : v.size ≠ 0) : (v.toList == ([] : List UInt8)) = false := by
  rw [ByteArray.toList_eq]
  have hl : v.data.toList.length = v.size := rfl
  cases e : v.data.toList with
  | nil => rw [e] at hl; exact absurd hl.symm h
  | cons a r => rfl
/-- AsNumber: the number, and whether it is one. -/
def asN1 (l : List UInt8) : Int := if l.length = 4 then frombig l else 0
end Go.Proofs.Ytmgfnghegcfhnaa

/- The document's AsTexts and AsText of layer 13; its SameTexts of the same texts. Conditions: strings of at most 2^40 bytes; at most 2^40 texts. -/
namespace Go.Proofs.Ytmgfnghegcfhnaa
open Go.RowKit

/-- How long a string is. -/
def strLen13 : Value → Nat
  | .string s => s.size
  | _ => 0
theorem elemS13 : ElemIs Try.prog 56 9 (.string ⟨#[]⟩) 16 := elemIs_mk Try.underlying56 rfl (by kernel_rfl)
theorem last_at (p : ByteArray) (m : Nat) (hm : p.size = m + 1) : p.data.toList.getLast? = some (p.data.toList.getD m 0) := by
  have hl : p.data.toList.length = m + 1 := hm
  rw [List.getLast?_eq_getElem?, hl, Nat.add_sub_cancel, List.getD_eq_getElem?_getD, List.getElem?_eq_getElem (by omega)]; rfl
theorem row_txt {w : World} {base : Nat} {v : Value} {l : List ByteArray} (h : w.ownsRow base 9 1 v l.length (l.map Value.string)) : ∃ A cap, v = .slice A l.length cap ∧ RdT w A l := by
  rcases h.2 with ⟨rfl, hz⟩ | ⟨b, cap, cur, rfl, hb, hg, hnc, hcm, hcs, hx⟩
  · exact ⟨none, 0, by rw [hz], .inl (List.length_eq_zero_iff.1 hz)⟩
  · refine ⟨_, cap, rfl, .inr ⟨b, 0, rfl, fun k hk => ?_⟩⟩
    rw [Nat.zero_add, h.cellAt k (by omega)]
    simp [hk]
theorem baL_len (L : List (List UInt8)) : (baL L).length = L.length := List.length_map _

end Go.Proofs.Ytmgfnghegcfhnaa

/- The document's AsText of layer 13; its SameTexts of the same texts. Conditions: strings of at most 2^40 bytes; at most 2^40 texts. -/
namespace Go.Proofs.Ytmgfnghegcfhnaa
open Go.RowKit

/-- AsText: the only text, and whether there is one. -/
def asT1 (l : List UInt8) : ByteArray × Bool := if okV l = true ∧ (asT l).length = 1 then (⟨((asT l).getD 0 []).toArray⟩, true) else (⟨#[]⟩, false)
theorem baL_one {T : List (List UInt8)} (h : T.length = 1) : (baL T).getD 0 ByteArray.empty = ⟨(T.getD 0 []).toArray⟩ := by
  match T, h with
  | [t], _ => rfl
end Go.Proofs.Ytmgfnghegcfhnaa
