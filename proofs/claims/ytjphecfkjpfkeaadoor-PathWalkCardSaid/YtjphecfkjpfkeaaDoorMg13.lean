/- The document's answers for layer 13: cut, Texts, AsNumbers, AsNumber, AsTexts, AsText, and its SameTexts of the same texts. Conditions: strings of at most 2^40 bytes; slices that read as numbers, as texts. -/
import Derived.Test.YtjphecfkjpfkeaaDoorVlPlain
import Derived.Test.YtjphecfkjpfkeaaDoorMg9
import Derived.Test.YtjphecfkjpfkeaaDoorMg12
import Derived.BigQuiet
namespace Go.Proofs.YtjphecfkjpfkeaaDoor
open Go.RowKit

theorem cutS_list (s : ByteArray) : (cutS s).data.toList = cutL s.data.toList := by unfold cutS; simp
theorem cutS_all {s : ByteArray} (h : z0 s.data.toList = s.size) : cutS s = s := by
  apply ByteArray.ext
  apply Array.ext'
  rw [cutS_list]
  unfold cutL
  rw [h]
  exact List.take_length
theorem cutS_ext {s : ByteArray} {k : Nat} (h : z0 s.data.toList = k) : cutS s = s.extract 0 k := by
  apply ByteArray.ext
  apply Array.ext'
  rw [cutS_list]
  have e : (s.extract 0 k).data = s.data.extract 0 k := ByteArray.data_extract
  rw [e, Array.toList_extract, List.extract_eq_take_drop, List.drop_zero, Nat.sub_zero]
  unfold cutL
  rw [h]

set_option maxHeartbeats 800000 in
set_option maxRecDepth 100000 in
theorem rcut_any (s : ByteArray) (w : World) (hs : s.size ≤ 1099511627776) :
    Calls Tryd.prog 59 #[.string s] w fun e w' => e = .returned (.string (cutS s)) ∧ w = w' := by
  have HE := Lib.hid (fun k (hk : z0 s.data.toList = k) => cutS_ext hk)
  have HZ := Lib.hid (fun k (hk : k < s.data.toList.length) h0 h => z0_eq s.data.toList k hk h0 h)
  have HL := Lib.hid (fun h : z0 s.data.toList = s.size => cutS_all h)
  have HN := Lib.hid (z0_none s.data.toList)
  have HG : Hid (∀ k (h : k < s.size), s.data.toList.getD k 0 = s[k]) := fun k h => getD_of s k h
  generalize cutS s = R at *
  go_enter Tryd.func59, Tryd.ntmps59
  go_wp2
  go_loop [3] (fun i => ∃ k : Nat, k ≤ s.size ∧ i = .int .i64 k ∧ Hid (∀ j, j < k → s.data.toList.getD j 0 ≠ 0)) (fun i => s.size - (intOf i).toNat)
  case atStart => exact ⟨0, Nat.zero_le _, rfl, fun j hj => absurd hj (Nat.not_lt_zero _)⟩
  case round =>
    obtain ⟨k, hk, rfl, HK⟩ := hrel
    by_cases hlt : k < s.size
    · have hki : (k : Int) < s.size := by omega
      have hg := HG.out k hlt
      by_cases h0 : s[k] = 0
      · have HR := Lib.hid (HE.out k (HZ.out k hlt (by rw [hg, h0]) HK.out))
        have hz : (((s[k].toNat : Nat) : Int) == 0) = true := by rw [h0]; rfl
        have hk0 : (0 : Int) ≤ (k : Int) := by omega
        have hk1 : (k : Int) ≤ s.size := by omega
        clear HE HZ HL HN HG HK h0 hg
        go_wp2
        go_ret
        exact ⟨by rw [HR.out]; rfl, rfl⟩
      · have hz : (((s[k].toNat : Nat) : Int) == 0) = false := by
          have : s[k].toNat ≠ 0 := fun e => h0 (UInt8.toNat_inj.1 e)
          simp; omega
        have HK1 : Hid (∀ j, j < k + 1 → s.data.toList.getD j 0 ≠ 0) := fun j hj => by
          by_cases e : j = k
          · subst e; rw [hg]; exact h0
          · exact HK.out j (by omega)
        clear h0 hg HK
        go_wp2
        go_round
        case rel => exact ⟨k + 1, by omega, by go_num, HK1⟩
        case measure => simp [intOf]; omega
    · obtain rfl : k = s.size := by omega
      have HR := Lib.hid (HL.out (HN.out HK.out))
      clear HE HZ HL HN HG HK
      go_wp2
      go_ret
      exact ⟨by rw [HR.out]; rfl, rfl⟩

theorem txt_snoc (l : List ByteArray) {k : Nat} (hk : k < l.length) {x : ByteArray} (hx : l.getD k ByteArray.empty = x) : txtB (l.take (k + 1)) = txtB (l.take k) ++ (cutL x.data.toList ++ [0]) := by
  have e : l.take (k + 1) = l.take k ++ [x] := by
    rw [List.take_succ_eq_append_getElem hk, ← hx, List.getD_eq_getElem?_getD, List.getElem?_eq_getElem hk]; rfl
  rw [e]
  unfold txtB
  rw [List.flatMap_append]; simp
theorem str_add {x y z : ByteArray} (hz : z.data.toList = x.data.toList ++ y.data.toList) (h : x.size + y.size ≤ 1099511627776) (W : World) : (Op.stringOp .add x y).run Tryd.prog W = .ok (.string z) W := by
  obtain ⟨⟨a⟩⟩ := x
  obtain ⟨⟨b⟩⟩ := y
  obtain ⟨⟨c⟩⟩ := z
  obtain rfl : c = a ++ b := hz
  have := run_string_add_sum (P := Tryd.prog) W ⟨a.toArray⟩ ⟨b.toArray⟩ (by
    have h' : a.length + b.length ≤ 1099511627776 := h
    show a.length + b.length ≤ 9223372036854775807
    omega)
  rw [ByteArray.mk_append_mk] at this
  exact this

end Go.Proofs.YtjphecfkjpfkeaaDoor

/- The document's answers for layer 13, on: AsNumbers, AsNumber, AsTexts, AsText; its SameTexts of the same texts. Conditions: strings of at most 2^40 bytes. -/
namespace Go.Proofs.YtjphecfkjpfkeaaDoor
open Go.RowKit

theorem nil_of_size {v : ByteArray} (h : v.size = 0) : v = ⟨#[]⟩ := by
  apply ByteArray.ext
  apply Array.ext'
  exact List.length_eq_zero_iff.1 h
theorem ne_nil_of {v : ByteArray} (h : v.size ≠ 0) : (v.toList == ([] : List UInt8)) = false := by
  rw [ByteArray.toList_eq]
  have hl : v.data.toList.length = v.size := rfl
  cases e : v.data.toList with
  | nil => rw [e] at hl; exact absurd hl.symm h
  | cons a r => rfl
/-- AsNumber: the number, and whether it is one. -/
def asN1 (l : List UInt8) : Int := if l.length = 4 then frombig l else 0
set_option maxHeartbeats 800000 in
set_option maxRecDepth 100000 in
theorem rasNumber_any (v : ByteArray) (w : World) (hv : v.size ≤ 1099511627776) :
    Calls Tryd.prog 38 #[.string v] w fun e w' => e = .returned (.tuple #[.int .i64 (asN1 v.data.toList), .bool (decide (v.size = 4))]) ∧ Below w.heap.size w w' := by
  have hlen : v.data.toList.length = v.size := rfl
  by_cases h4 : v.size = 4
  · have ha : asN1 v.data.toList = frombig v.data.toList := if_pos h4
    have d4 : ((v.size : Int) != 4) = false := by rw [h4]; rfl
    have HF := Lib.hid (reffrombig_yes v w (by omega) (by unfold maxLen; exact Nat.le_trans hv (by decide)))
    rw [ha, decide_eq_true h4]
    clear ha h4 hlen
    go_enter Tryd.func38, Tryd.ntmps38
    go_wp2_with fail
    refine HF.out.mono ?_
    rintro e w1 ⟨rfl, hb⟩
    have HB := Lib.hid hb
    clear hb
    go_wp2
    go_ret2
    exact ⟨rfl, HB.out⟩
  · have ha : asN1 v.data.toList = 0 := if_neg h4
    have d4 : ((v.size : Int) != 4) = true := by simp; omega
    rw [ha, decide_eq_false h4]
    clear ha h4 hlen
    go_enter Tryd.func38, Tryd.ntmps38
    go_wp2
    go_ret2
    exact ⟨rfl, Below.refl _ _⟩
end Go.Proofs.YtjphecfkjpfkeaaDoor
