/- What the document's Read returns. Conditions: strings of at most 2^40 bytes. -/
import Derived.Test.YtgfdbmbgldeljaaMg11
import Derived.Test.YtgfdbmbgldeljaaMg3
import Derived.Deep.DeepCutAuto
import Derived.Test.YtgfdbmbgldeljaaMg10
import Derived.Test.YtgfdbmbgldeljaaProg
import Derived.WalkKit
import Derived.IntWalk
namespace Go.Proofs.Ytgfdbmbgldeljaa
open Go.RowKit

theorem beginR_le {l : List UInt8} : (beginR l).2.1 ≤ l.length := by
  unfold beginR
  split
  · exact Nat.zero_le _
  · split
    · show up4 (z0 l + 1) ≤ l.length; omega
    · exact Nat.zero_le _
theorem propR_le {l tx : List UInt8} : (propR l tx).2.1 ≤ l.length := by
  unfold propR
  split
  · exact Nat.zero_le _
  · split
    · exact Nat.zero_le _
    · split
      · show 8 + up4 (pSz l) ≤ l.length; omega
      · exact Nat.zero_le _
/-- What stands at the beginning, by its kind. -/
theorem step_1 {l tx : List UInt8} {s : ByteArray} {n e : Nat} (h4 : ¬ l.length < 4) (hk : frombig l = 1) (hb : beginR (l.drop 4) = (s, n, e)) : (e ≠ 0 → stepR l tx = .err e) ∧ (e = 0 → stepR l tx = .tok ⟨1, s, ByteArray.empty⟩ n) := by
  unfold stepR
  rw [if_neg h4, if_pos hk, hb]
  exact ⟨fun h => if_neg h, fun h => if_pos h⟩
theorem step_3 {l tx : List UInt8} {t : TK} {n e : Nat} (h4 : ¬ l.length < 4) (hk : frombig l = 3) (hb : propR (l.drop 4) tx = (t, n, e)) : (e ≠ 0 → stepR l tx = .err e) ∧ (e = 0 → stepR l tx = .tok t n) := by
  unfold stepR
  rw [if_neg h4, if_neg (by omega), if_pos hk, hb]
  exact ⟨fun h => if_neg h, fun h => if_pos h⟩
theorem step_24 {l tx : List UInt8} (h4 : ¬ l.length < 4) (hk : frombig l = 2 ∨ frombig l = 4) : stepR l tx = .tok ⟨frombig l, ByteArray.empty, ByteArray.empty⟩ 0 := by
  unfold stepR
  rw [if_neg h4, if_neg (by omega), if_neg (by omega), if_pos hk]
theorem step_9 {l tx : List UInt8} (h4 : ¬ l.length < 4) (hk : frombig l = 9) : (l.drop 4 = [] → stepR l tx = .stop) ∧ (l.drop 4 ≠ [] → stepR l tx = .err 6) := by
  unfold stepR
  rw [if_neg h4, if_neg (by omega), if_neg (by omega), if_neg (by omega), if_pos hk]
  exact ⟨fun h => if_pos h, fun h => if_neg h⟩
theorem step_no {l tx : List UInt8} (h4 : ¬ l.length < 4) (h1 : frombig l ≠ 1) (h3 : frombig l ≠ 3) (h24 : ¬ (frombig l = 2 ∨ frombig l = 4)) (h9 : frombig l ≠ 9) : stepR l tx = .err 6 := by
  unfold stepR
  rw [if_neg h4, if_neg h1, if_neg h3, if_neg h24, if_neg h9]
/-- A result in memory. -/
def Got10 (B : Nat) (w : World) (v : Value) (r : List TK) : Prop := w.ownsRow B 84 3 v r.length (tkL r)
theorem got_nil (B : Nat) (w : World) : Got10 B w (.slice none 0 0) [] := World.ownsRow_nil _ _ _ _

end Go.Proofs.Ytgfdbmbgldeljaa

/- What the document's Few of strings returns. Conditions: a slice that reads as strings. -/
namespace Go.Proofs.Ytgfdbmbgldeljaa
open Go.RowKit

/-- Are there few strings, of few bytes? -/
def few9 (l : List ByteArray) : Bool := decide (l.length ≤ 40 ∧ ∀ k, k < l.length → (l.getD k ByteArray.empty).size ≤ 100)
theorem few9_len {l : List ByteArray} (h : few9 l = true) : l.length ≤ 40 := (of_decide_eq_true h).1
theorem few9_each {l : List ByteArray} (h : few9 l = true) : ∀ k, k < l.length → (l.getD k ByteArray.empty).size ≤ 100 := (of_decide_eq_true h).2
end Go.Proofs.Ytgfdbmbgldeljaa

/- What the document's Offsets, Few and SameInts return, and that awake() of layer 9's statements returns true. Conditions: Offsets: a slice that reads as at most 40 strings, each of which fits; SameInts: two slices that read as the same numbers. -/
namespace Go.Proofs.Ytgfdbmbgldeljaa
open Go.RowKit

theorem own_lt {w : World} {base e size n : Nat} {u : Value} {xs : List Value} (ho : w.ownsRow base e size u n xs) {k : Nat} (hk : u.ownBlock = some k) : k < w.heap.size := by
  obtain ⟨cur, hc⟩ := ow_type ho hk
  exact (Array.getElem?_eq_some_iff.1 hc).1
section
variable {B : Nat} {w w' : World} {g : Nat} {u u' : Value} {L : List ByteArray} {P P' : List Nat}
end

end Go.Proofs.Ytgfdbmbgldeljaa

/- What the document's Put returns. Conditions: a slice that reads as tokens, each name and value of at most 2^20 bytes. -/
namespace Go.Proofs.Ytgfdbmbgldeljaa
open Go.RowKit

theorem add_lists (a b : List UInt8) (h : a.length + b.length ≤ 1099511627776) (W : World) : (Op.stringOp .add ⟨a.toArray⟩ ⟨b.toArray⟩).run Try.prog W = .ok (.string ⟨(a ++ b).toArray⟩) W := by
  rw [run_string_add_sum W _ _ (by rw [size_mk, size_mk]; omega), ByteArray.mk_append_mk]
/-- The same, with letters for the strings. -/
theorem add_letters {x y z : ByteArray} (hz : z.data.toList = x.data.toList ++ y.data.toList) (h : x.size + y.size ≤ 1099511627776) (W : World) : (Op.stringOp .add x y).run Try.prog W = .ok (.string z) W := by
  have := add_lists x.data.toList y.data.toList h W
  rw [ba_of, ba_of, ← hz, ba_of] at this
  exact this
theorem mk_list (l : List UInt8) : (ByteArray.mk l.toArray).data.toList = l := by simp
theorem padL_le (l : List UInt8) : (padL l).length ≤ l.length + 3 := by rw [padL_length]; have := up4_lt l.length; omega
theorem encT_le {p : Nat} {x : TK} (hok : okT x = true) : (encT p x).length ≤ x.vl.size + 64 := by
  unfold encT
  split
  · rename_i h1
    unfold okT at hok
    rw [if_pos h1] at hok
    have hn : x.nm.size ≤ 31 := by
      unfold nodeB at hok
      rcases Bool.or_eq_true_iff.1 hok with h | h
      · have := of_decide_eq_true h; omega
      · exact (mayB_iff.1 h).2.1
    have := padL_le (x.nm.data.toList ++ [0])
    have hl : x.nm.data.toList.length = x.nm.size := rfl
    rw [List.length_append] at this ⊢
    rw [big_len]
    simp only [List.length_cons, List.length_nil] at this
    omega
  · split
    · have := padL_le x.vl.data.toList
      have hl : x.vl.data.toList.length = x.vl.size := rfl
      rw [List.length_append, List.length_append, List.length_append, big_len, big_len, big_len]
      omega
    · rw [big_len]; omega
theorem putS_le : ∀ (l : List TK) (B : List ByteArray), (∀ x ∈ l, okT x = true ∧ x.vl.size ≤ 1048576) → (putS B l).length ≤ l.length * 1048640
  | [], _, _ => Nat.zero_le _
  | x :: l, B, h => by
    have h1 := putS_le l (blkT B x) (fun y hy => h y (by simp [hy]))
    have h2 := encT_le (p := posn B x.nm) (h x (by simp)).1
    have h3 := (h x (by simp)).2
    show (encT _ x ++ putS (blkT B x) l).length ≤ _
    rw [List.length_append, List.length_cons]
    omega
theorem take_tk {l : List TK} {k : Nat} (hk : k < l.length) {x : TK} (hx : l.getD k tk0 = x) : l.take (k + 1) = l.take k ++ [x] := by
  rw [List.take_succ_eq_append_getElem hk, ← hx, List.getD_eq_getElem?_getD, List.getElem?_eq_getElem hk]; rfl
theorem all_bad {l : List TK} (k : Nat) (hk : k < l.length) (h : okT (l.getD k tk0) = false) : l.all okT = false := by
  cases e : l.all okT with
  | false => rfl
  | true =>
    have := List.all_eq_true.1 e (l.getD k tk0) (by rw [List.getD_eq_getElem?_getD, List.getElem?_eq_getElem hk]; exact List.getElem_mem _)
    rw [h] at this; cases this
theorem all_good {l : List TK} (h : ∀ k, k < l.length → okT (l.getD k tk0) = true) : l.all okT = true := by
  rw [List.all_eq_true]
  intro s hs
  obtain ⟨k, hk, rfl⟩ := List.getElem_of_mem hs
  have := h k hk
  rwa [List.getD_eq_getElem?_getD, List.getElem?_eq_getElem hk] at this
section
variable {B : Nat} {w w' : World} {g : Nat} {L : List ByteArray}
end
/-- How Put's ends are told. -/
theorem putR_big {l : List TK} (h : 1024 ≤ l.length) : putR l = (ByteArray.empty, ByteArray.empty, 7) := by unfold putR; rw [if_pos h]
theorem putR_bad {l : List TK} (h : ¬ 1024 ≤ l.length) (hb : l.all okT = false) : putR l = (ByteArray.empty, ByteArray.empty, 1) := by unfold putR; rw [if_neg h, hb]; rfl
theorem putR_good {l : List TK} (h : ¬ 1024 ≤ l.length) (hb : l.all okT = true) : putR l = (⟨(putS [] l ++ big 9).toArray⟩, ⟨(flat (putB [] l)).toArray⟩, 0) := by unfold putR; rw [if_neg h, hb]; rfl

end Go.Proofs.Ytgfdbmbgldeljaa

/- What is put is read as it was, what is read may be put: tokens in plain words. No condition. -/
namespace Go.Proofs.Ytgfdbmbgldeljaa
open Go.RowKit

theorem tk_getD_mem {l : List TK} {k : Nat} (hk : k < l.length) : l.getD k tk0 ∈ l := by
  rw [List.getD_eq_getElem?_getD, List.getElem?_eq_getElem hk]; exact List.getElem_mem _
theorem tk_mem_getD {l : List TK} {x : TK} (h : x ∈ l) : ∃ k, k < l.length ∧ l.getD k tk0 = x := by
  obtain ⟨k, hk, rfl⟩ := List.getElem_of_mem h
  exact ⟨k, hk, by rw [List.getD_eq_getElem?_getD, List.getElem?_eq_getElem hk]; rfl⟩
theorem map_bare_getD {l : List TK} {k : Nat} (hk : k < l.length) : (l.map bare).getD k tk0 = bare (l.getD k tk0) := by
  simp [List.getD_eq_getElem?_getD, hk]
/-- What is put without an error. -/
theorem put_ok {l : List TK} (h : (putR l).2.2 = 0) : l.length < 1024 ∧ l.all okT = true := by
  unfold putR at h
  split at h
  · cases h
  · split at h
    · exact ⟨by omega, ‹_›⟩
    · cases h
theorem put_read {l : List TK} (hv : ∀ x ∈ l, x.vl.size ≤ 1048576) (h : (putR l).2.2 = 0) :
    readR 1024 (putR l).1.data.toList (putR l).2.1.data.toList = (l.map bare, 0) ∧ (putR l).1.size ≤ 1099511627776 ∧ (putR l).2.1.size ≤ 1099511627776 := by
  obtain ⟨h1, h2⟩ := put_ok h
  have hall := List.all_eq_true.1 h2
  rw [putR_good (by omega) h2]
  simp only
  have hB := okL_putB l okL_nil
  have hlen := putB_len l []
  have hfl := flat_le hB
  have hps := putS_le l [] (fun x hx => ⟨hall x hx, hv x hx⟩)
  simp only [List.length_nil] at hlen
  refine ⟨readR_put l [] 1024 h1 hB (by omega) (fun x hx => ⟨hall x hx, by have := hv x hx; omega⟩), ?_, ?_⟩
  · rw [size_mk, List.length_append, big_len]; omega
  · rw [size_mk]; omega
/-- What is read may be put. -/
theorem read_put {s t : List UInt8} {r : List TK} (hs : s.length ≤ 1048576) (h : readR 1024 s t = (r, 0)) :
    (putR r).2.2 = 0 ∧ r.map bare = r ∧ (∀ k, k < r.length → (r.getD k tk0).nm.size ≤ 1048576 ∧ (r.getD k tk0).vl.size ≤ 1048576) ∧ (∀ k, k < r.length → (r.getD k tk0).kd < 9223372036854775808 ∧ -9223372036854775808 ≤ (r.getD k tk0).kd) ∧ (∀ x ∈ r, x.vl.size ≤ 1048576) ∧ r.length < 1024 := by
  obtain ⟨h1, h2⟩ := readR_ok 1024 s t r h
  have hall : r.all okT = true := List.all_eq_true.2 (fun x hx => (h2 x hx).1)
  have hone : ∀ x ∈ r, x.nm.size ≤ 1048576 ∧ x.vl.size ≤ 1048576 ∧ x.kd < 9223372036854775808 ∧ -9223372036854775808 ≤ x.kd := by
    intro x hx
    obtain ⟨g1, g2, g3⟩ := h2 x hx
    unfold okT at g1
    by_cases k1 : x.kd = 1
    · rw [if_pos k1] at g1
      unfold nodeB at g1
      have : x.nm.size ≤ 31 := by
        rcases Bool.or_eq_true_iff.1 g1 with h | h
        · have := of_decide_eq_true h; omega
        · exact (mayB_iff.1 h).2.1
      omega
    · rw [if_neg k1] at g1
      by_cases k3 : x.kd = 3
      · rw [if_pos k3] at g1
        have := (mayB_iff.1 g1).2.1
        omega
      · rw [if_neg k3] at g1
        have k24 : x.kd = 2 ∨ x.kd = 4 := of_decide_eq_true g1
        unfold bare at g2
        rw [if_neg k1, if_neg k3] at g2
        have : x.nm.size = 0 := by rw [← g2]; rfl
        omega
  refine ⟨by rw [putR_good (by omega) hall], ?_, fun k hk => ⟨(hone _ (tk_getD_mem hk)).1, (hone _ (tk_getD_mem hk)).2.1⟩, fun k hk => (hone _ (tk_getD_mem hk)).2.2, fun x hx => (hone x hx).2.1, h1⟩
  have : ∀ q : List TK, (∀ x ∈ q, bare x = x) → q.map bare = q := by
    intro q
    induction q with
    | nil => intro _; rfl
    | cons x q ih => intro hq; rw [List.map_cons, hq x (by simp), ih (fun y hy => hq y (by simp [hy]))]
  exact this r (fun x hx => (h2 x hx).2.1)
end Go.Proofs.Ytgfdbmbgldeljaa
