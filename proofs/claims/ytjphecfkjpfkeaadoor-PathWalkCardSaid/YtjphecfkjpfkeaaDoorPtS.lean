/- Bytes cut at slashes, at most seven times: what package strings' cut is, in layer 16's plain words. No condition: nothing of the program stands in it. -/
import Derived.Test.YtjphecfkjpfkeaaDoorPtPlain
import Derived.Lib.SplitLaws
import Derived.Lib.Split
import Derived.Lib.IndexBytes
import Derived.Lib.CountLaws
import Derived.Lib.SlicesS
import Derived.Lib.Join
namespace Go.Proofs.YtjphecfkjpfkeaaDoor

theorem cut47 : ∀ l : List UInt8, (Lib.indexByte l 47 = -1 ∧ splitS l = [l]) ∨ ∃ i : Nat, Lib.indexByte l 47 = i ∧ i < l.length ∧ splitS l = l.take i :: splitS (l.drop (i + 1))
  | [] => .inl ⟨rfl, rfl⟩
  | b :: l => by
    by_cases hb : b = 47
    · right
      refine ⟨0, ?_, Nat.succ_pos _, ?_⟩
      · unfold Lib.indexByte
        rw [if_pos (beq_iff_eq.2 hb)]; rfl
      · rw [splitS, if_pos hb]; rfl
    · have hn : ¬ (b == 47) = true := fun e => hb (beq_iff_eq.1 e)
      have hs : splitS (b :: l) = (b :: (splitS l).headD []) :: (splitS l).tail := by rw [splitS, if_neg hb]
      rcases cut47 l with ⟨h1, h2⟩ | ⟨i, h1, h2, h3⟩
      · left
        refine ⟨?_, by rw [hs, h2]; rfl⟩
        unfold Lib.indexByte
        rw [if_neg hn, h1]; rfl
      · right
        refine ⟨i + 1, ?_, Nat.succ_lt_succ h2, by rw [hs, h3]; rfl⟩
        unfold Lib.indexByte
        have hm : ¬ ((i : Int) == -1) = true := fun e => by have := beq_iff_eq.1 e; omega
        rw [if_neg hn, h1, if_neg hm]; rfl
theorem split_len47 : ∀ l : List UInt8, (splitS l).length ≤ l.length + 1
  | [] => Nat.le_refl _
  | b :: l => by
    have h := split_len47 l
    have hp : 0 < (splitS l).length := List.length_pos_iff.2 (split_ne l)
    rw [splitS]
    split
    · rw [List.length_cons, List.length_cons]; omega
    · rw [List.length_cons, List.length_tail, List.length_cons]; omega
theorem splitK_few : ∀ (k : Nat) (l : List UInt8), (Lib.splitK [47] 0 k l).length = min (k + 1) (splitS l).length ∧ ((splitS l).length ≤ k + 1 → Lib.splitK [47] 0 k l = splitS l)
  | 0, l => by
    have hp : 0 < (splitS l).length := List.length_pos_iff.2 (split_ne l)
    refine ⟨?_, fun h => ?_⟩
    · show 1 = _
      omega
    · rcases cut47 l with ⟨_, h2⟩ | ⟨i, _, _, h3⟩
      · rw [h2]; rfl
      · have hq : 0 < (splitS (l.drop (i + 1))).length := List.length_pos_iff.2 (split_ne _)
        rw [h3, List.length_cons] at h
        omega
  | k + 1, l => by
    rcases cut47 l with ⟨h1, h2⟩ | ⟨i, h1, h2, h3⟩
    · have e : Lib.splitK [47] 0 (k + 1) l = [l] := by
        unfold Lib.splitK
        rw [Lib.index_one, h1]; rfl
      rw [e, h2]
      refine ⟨?_, fun _ => rfl⟩
      show 1 = min (k + 1 + 1) 1
      omega
    · have hm : ¬ ((i : Int) == -1) = true := fun e => by have := beq_iff_eq.1 e; omega
      have e : Lib.splitK [47] 0 (k + 1) l = l.take i :: Lib.splitK [47] 0 k (l.drop (i + 1)) := by
        show (if Lib.index l [47] == -1 then _ else _) = _
        rw [Lib.index_one, h1, if_neg hm]; rfl
      obtain ⟨g1, g2⟩ := splitK_few k (l.drop (i + 1))
      rw [e, h3]
      refine ⟨?_, fun h => ?_⟩
      · rw [List.length_cons, List.length_cons, g1]; omega
      · rw [List.length_cons] at h
        rw [g2 (by omega)]
/-- The names that are cut off, and the rest. -/
def cut8 (r : List UInt8) : List (List UInt8) := Lib.splitK [47] 0 (min 8 (r.length + 1) - 1) r
theorem cut8_few {r : List UInt8} (h : (cut8 r).length ≤ 7) : cut8 r = splitS r := by
  obtain ⟨h1, h2⟩ := splitK_few (min 8 (r.length + 1) - 1) r
  have hl := split_len47 r
  unfold cut8 at h ⊢
  exact h2 (by omega)
theorem cut8_many {r : List UInt8} (h : 7 < (cut8 r).length) : nmOk (splitS r) = false := by
  obtain ⟨h1, h2⟩ := splitK_few (min 8 (r.length + 1) - 1) r
  unfold cut8 at h
  cases e : nmOk (splitS r) with
  | false => rfl
  | true => have := (nmOk_iff.1 e).1; omega
theorem cut8_len (r : List UInt8) : (cut8 r).length ≤ 8 ∧ (cut8 r).length ≤ min 8 (r.length + 1) := by
  obtain ⟨h1, _⟩ := splitK_few (min 8 (r.length + 1) - 1) r
  have hl := split_len47 r
  unfold cut8
  omega
/-- An empty name among them. -/
theorem cut8_bad {r : List UInt8} (h : (cut8 r).length ≤ 7) (hc : Lib.containsS (baL (cut8 r)) ⟨#[]⟩ = true) : nmOk (splitS r) = false := by
  cases e : nmOk (splitS r) with
  | false => rfl
  | true =>
    have h1 := (nmOk_iff.1 e).2
    rw [cut8_few h, Lib.containsS_iff] at hc
    obtain ⟨x, hx, he⟩ := List.mem_map.1 hc
    have : x = [] := by
      have := congrArg (fun z : ByteArray => z.data.toList) he
      simpa using this
    exact absurd this (h1 x hx)
theorem cut8_good {r : List UInt8} (h : (cut8 r).length ≤ 7) (hc : Lib.containsS (baL (cut8 r)) ⟨#[]⟩ = false) : nmOk (splitS r) = true := by
  rw [cut8_few h] at hc h
  refine nmOk_iff.2 ⟨h, fun x hx e => ?_⟩
  have : Lib.containsS (baL (splitS r)) ⟨#[]⟩ = true := (Lib.containsS_iff _ _).2 (List.mem_map.2 ⟨x, hx, by rw [e]⟩)
  rw [hc] at this
  cases this
theorem splitB_ba47 (k : Nat) (s : ByteArray) : Lib.splitB ⟨#[47]⟩ 0 k s = baL (Lib.splitK [47] 0 k s.data.toList) := by
  have h := Lib.splitB_data ⟨#[47]⟩ 0 k s
  have h2 : (ByteArray.mk #[47]).data.toList = [47] := rfl
  rw [h2] at h
  rw [← h]
  unfold baL
  rw [List.map_map]
  exact (List.map_id _).symm.trans (List.map_congr_left fun x _ => rfl)
theorem splitB_cut8 (s : ByteArray) : Lib.splitB ⟨#[47]⟩ 0 (min 8 (s.size + 1) - 1) s = baL (cut8 s.data.toList) := splitB_ba47 _ s
/-- Names joined by slashes, and one slash ahead. -/
theorem join47 (l : List ByteArray) : (47 :: Lib.join (l.map (·.data.toList)) [47]) = joinB l := by
  unfold joinB
  by_cases h : l = []
  · rw [if_pos h, h]; rfl
  · rw [if_neg h]
    cases l with
    | nil => exact absurd rfl h
    | cons x r =>
      rw [List.map_cons, Lib.join_cons, List.flatMap_cons]
      have e : Lib.joinTail [47] (r.map (·.data.toList)) = r.flatMap fun x => 47 :: x.data.toList := by
        unfold Lib.joinTail
        rw [List.map_map, List.flatMap_def]; rfl
      rw [e]; rfl
theorem joinB_len {b : Nat} : ∀ {l : List ByteArray}, (∀ k, k < l.length → (l.getD k ByteArray.empty).size ≤ b) → (l.flatMap fun x => 47 :: x.data.toList).length ≤ l.length * (b + 1)
  | [], _ => Nat.zero_le _
  | x :: r, h => by
    have h0 : x.data.toList.length ≤ b := h 0 (Nat.succ_pos _)
    have h1 := joinB_len (l := r) (b := b) fun k hk => h (k + 1) (Nat.succ_lt_succ hk)
    rw [List.flatMap_cons, List.length_append, List.length_cons, List.length_cons, Nat.succ_mul]
    omega
end Go.Proofs.YtjphecfkjpfkeaaDoor
