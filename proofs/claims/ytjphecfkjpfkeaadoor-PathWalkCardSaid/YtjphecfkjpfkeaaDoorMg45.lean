/- Bytes cut at each byte 0: what package strings' cuts are, in layer 13's plain words. No condition: nothing of the program stands in it. -/
import Derived.Test.YtjphecfkjpfkeaaDoorVlPlain
import Derived.Lib.SplitLaws
import Derived.Lib.Split
import Derived.Lib.IndexBytes
import Derived.Lib.CountLaws
import Derived.Test.YtjphecfkjpfkeaaDoorShelf
import Derived.Test.YtjphecfkjpfkeaaDoorStPlain
import Derived.Test.YtjphecfkjpfkeaaDoorMg19
import Derived.Laws.IdiomStrings
import Derived.Deep.QuietTactic
import Derived.BigQuiet
import Derived.IntWalk
namespace Go.Proofs.YtjphecfkjpfkeaaDoor

theorem idx0 (l : List UInt8) : Lib.index l [0] = if z0 l < l.length then (z0 l : Int) else -1 := (Lib.index_one l 0).trans (indexByte_z0 l)
theorem z0_more : ∀ (l r : List UInt8), z0 l < l.length → z0 (l ++ r) = z0 l
  | [], _, h => by simp [z0] at h
  | b :: l, r, h => by
    show (if b = 0 then 0 else z0 (l ++ r) + 1) = (if b = 0 then 0 else z0 l + 1)
    by_cases hb : b = 0
    · rw [if_pos hb, if_pos hb]
    · rw [if_neg hb, if_neg hb]
      have h2 : (if b = 0 then 0 else z0 l + 1) < l.length + 1 := h
      rw [if_neg hb] at h2
      rw [z0_more l r (by omega)]
/-- All pieces between bytes 0 are the texts of the same bytes with one more byte 0 behind them. -/
theorem split_spl : ∀ (n : Nat) (l : List UInt8), l.length ≤ n → Lib.splitK [0] 0 (Lib.count l [0]) l = splR (l ++ [0]).length (l ++ [0])
  | n, l, hn => by
    have hne : l ++ [0] ≠ [] := by simp
    rw [splR_step hne]
    by_cases h : (0 : UInt8) ∈ l
    · have hz := (z0_mem l).1 h
      have hi : Lib.index l [0] = (z0 l : Int) := by rw [idx0, if_pos hz]
      have hza := z0_more l [0] hz
      have hm : ¬ ((z0 l : Int) == -1) = true := fun e => by have := beq_iff_eq.1 e; omega
      have hcut : cutL (l ++ [0]) = l.take (z0 l) := by unfold cutL; rw [hza, List.take_append_of_le_length (by omega)]
      have hdrop : (l ++ [0]).drop (z0 l + 1) = l.drop (z0 l + 1) ++ [0] := List.drop_append_of_le_length (by omega)
      rw [Lib.count_hit (by simp) hi, Nat.add_comm 1, hza, hcut, hdrop]
      have hlen : ([0] : List UInt8).length = 1 := rfl
      rw [hlen]
      show (if Lib.index l [0] == -1 then _ else _) = _
      rw [hi, if_neg hm, Int.toNat_natCast, Nat.add_zero, hlen]
      cases n with
      | zero => omega
      | succ n => rw [split_spl n (l.drop (z0 l + 1)) (by rw [List.length_drop]; omega)]
    · have hz : ¬ z0 l < l.length := fun e => h ((z0_mem l).2 e)
      have hi : Lib.index l [0] = -1 := by rw [idx0, if_neg hz]
      have hza : z0 (l ++ [0]) = l.length := z0_app l [] h
      have hcut : cutL (l ++ [0]) = l := by unfold cutL; rw [hza, List.take_append_of_le_length (Nat.le_refl _), List.take_length]
      have hdrop : (l ++ [0]).drop (l.length + 1) = [] := List.drop_eq_nil_of_le (by simp)
      rw [Lib.count_miss hi, hza, hcut, hdrop, splR_nil]
      rfl
theorem ba_list (s : ByteArray) : (⟨s.data.toList.toArray⟩ : ByteArray) = s := rfl
theorem splitB_ba (k : Nat) (s : ByteArray) : Lib.splitB ⟨#[0]⟩ 0 k s = baL (Lib.splitK [0] 0 k s.data.toList) := by
  have h := Lib.splitB_data ⟨#[0]⟩ 0 k s
  have h2 : (ByteArray.mk #[0]).data.toList = [0] := rfl
  rw [h2] at h
  rw [← h]
  unfold baL
  rw [List.map_map]
  exact (List.map_id _).symm.trans (List.map_congr_left fun x _ => rfl)
theorem last_split {l : List UInt8} (h : l.getLast? = some 0) : l = l.take (l.length - 1) ++ [0] := by
  have hne : l ≠ [] := fun e => by rw [e] at h; cases h
  have e : l.getLast hne = 0 := by
    have := List.getLast?_eq_some_getLast hne
    rw [this] at h
    exact Option.some.inj h
  rw [← List.dropLast_eq_take]
  conv => lhs; rw [← List.dropLast_concat_getLast hne, e]
/-- What AsTexts makes of a value: its last byte 0 taken off, then cut at each byte 0. -/
theorem asT_split {v x : ByteArray} (ho : okV v.data.toList = true) (hx : x.data.toList = v.data.toList.take (v.data.toList.length - 1)) : Lib.splitB ⟨#[0]⟩ 0 (Lib.countB x ⟨#[0]⟩) x = baL (asT v.data.toList) := by
  rw [splitB_ba]
  have hl := last_split (okV_iff.1 ho).2
  rw [← hx] at hl
  have e : asT v.data.toList = splR v.data.toList.length v.data.toList := if_pos ho
  rw [e, hl, ← split_spl _ x.data.toList (Nat.le_refl _)]
theorem asT_count {v x : ByteArray} (ho : okV v.data.toList = true) (hx : x.data.toList = v.data.toList.take (v.data.toList.length - 1)) : (asT v.data.toList).length = Lib.countB x ⟨#[0]⟩ + 1 := by
  have h := congrArg List.length (asT_split ho hx)
  rw [Lib.splitB_all ⟨#[0]⟩ (by decide) 0 _ x rfl] at h
  have hb : (baL (asT v.data.toList)).length = (asT v.data.toList).length := List.length_map _
  omega
/-- A suffix of one byte 0. -/
theorem suf0 (l : List UInt8) : Lib.hasSuffix l [0] = okV l := by
  unfold Lib.hasSuffix okV
  by_cases h : l.getLast? = some 0
  · have hne : l ≠ [] := fun e => by rw [e] at h; cases h
    rw [decide_eq_true ⟨hne, h⟩]
    exact List.isSuffixOf_iff_suffix.2 ⟨_, (last_split h).symm⟩
  · rw [decide_eq_false (fun e => h e.2)]
    cases e : List.isSuffixOf [0] l with
    | false => rfl
    | true =>
      obtain ⟨t, ht⟩ := List.isSuffixOf_iff_suffix.1 e
      exact absurd (by rw [← ht]; simp) h
end Go.Proofs.YtjphecfkjpfkeaaDoor

/- What allowed, Get and the map of no bytes' positions are, and strings.Cut at one byte 0; the document's May, Get and Few. Conditions: strings of at most 2^40 bytes, places of 64 bits. -/
namespace Go.Proofs.YtjphecfkjpfkeaaDoor
open Go.RowKit

end Go.Proofs.YtjphecfkjpfkeaaDoor
