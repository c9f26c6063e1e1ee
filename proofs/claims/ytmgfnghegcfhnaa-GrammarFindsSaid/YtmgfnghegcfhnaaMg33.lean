/- Each node is found at its path, in plain words; a path that is put together of its names is it. No condition: nothing of the program stands in it. -/
import Derived.Test.YtmgfnghegcfhnaaMg32
namespace Go.Proofs.Ytmgfnghegcfhnaa
open Go.RowKit

/-- A name that may stand in a path. -/
def okNm (x : List UInt8) : Prop := x ≠ [] ∧ ∀ c ∈ x, c ≠ 47
/-- The path of names. -/
def pathL (l : List (List UInt8)) : List UInt8 := if l = [] then [47] else l.flatMap (47 :: ·)
theorem path_nil : pathL [] = [47] := rfl
theorem path_ne {l : List (List UInt8)} (h : l ≠ []) : pathL l = l.flatMap (47 :: ·) := if_neg h
theorem split_join : ∀ {l : List (List UInt8)}, l ≠ [] → (∀ x ∈ l, okNm x) → splitS ((l.flatMap (47 :: ·)).drop 1) = l
  | [], h, _ => absurd rfl h
  | [x], _, h => by
    show splitS (x ++ []) = [x]
    rw [List.append_nil]
    exact split_last x (h x List.mem_cons_self).2
  | x :: y :: r, _, h => by
    have ih := split_join (l := y :: r) (by simp) (fun z hz => h z (List.mem_cons_of_mem _ hz))
    show splitS (x ++ 47 :: (((y :: r).flatMap (47 :: ·)).drop 1)) = _
    rw [split_seg x _ (h x List.mem_cons_self).2, ih]
theorem parts_path {l : List (List UInt8)} (h7 : l.length ≤ 7) (h : ∀ x ∈ l, okNm x) : partsR (pathL l) = (l, true) := by
  by_cases e : l = []
  · rw [e]; exact parts_root
  · have hs := split_join e h
    rw [path_ne e]
    have hok : nmOk (splitS ((l.flatMap (47 :: ·)).drop 1)) = true := by rw [hs]; exact nmOk_iff.2 ⟨h7, fun x hx => (h x hx).1⟩
    have h0 : l.flatMap (47 :: ·) ≠ [47] := fun e0 => by
      rw [e0] at hs
      have hs : [[]] = l := hs
      exact (h [] (by rw [← hs]; exact List.mem_cons_self)).1 rfl
    have h1 : (l.flatMap (47 :: ·)).head? = some 47 := by
      cases l with
      | nil => exact absurd rfl e
      | cons x r => rfl
    rw [parts_yes h0 h1 hok, hs]
theorem unsplit : ∀ q : List UInt8, (splitS q).flatMap (47 :: ·) = 47 :: q
  | [] => rfl
  | c :: r => by
    have ih := unsplit r
    rw [splitS]
    split
    · rename_i e
      rw [e]
      show 47 :: ((splitS r).flatMap (47 :: ·)) = _
      rw [ih]
    · rw [split_cons] at ih
      have ih : 47 :: ((splitS r).headD [] ++ ((splitS r).tail.flatMap (47 :: ·))) = 47 :: r := ih
      injection ih with _ ih
      show 47 :: c :: ((splitS r).headD [] ++ ((splitS r).tail.flatMap (47 :: ·))) = _
      rw [ih]
theorem join_parts {p : List UInt8} {l : List (List UInt8)} (h : partsR p = (l, true)) : pathL l = p := by
  unfold partsR at h
  split at h
  · rename_i e
    injection h with h _
    rw [← h, e]; rfl
  · split at h
    · rename_i e
      injection h with h _
      rw [← h, path_ne (split_ne _), unsplit]
      cases p with
      | nil => exact absurd e.1 (by simp)
      | cons c r =>
        have := e.1
        injection (show some c = some 47 from this) with this
        rw [this]; rfl
    · injection h with _ h
      exact absurd h (by decide)
theorem split_one : ∀ {x : List UInt8}, (splitS x).length = 1 → ∀ c ∈ x, c ≠ 47
  | [], _ => fun c hc => absurd hc List.not_mem_nil
  | d :: r, h => by
    rw [splitS] at h
    split at h
    · have := List.length_pos_iff.2 (split_ne r)
      rw [List.length_cons] at h
      omega
    · rename_i e
      rw [List.length_cons] at h
      have hr : (splitS r).length = 1 := by rw [split_cons, List.length_cons]; omega
      intro c hc
      rcases List.mem_cons.1 hc with rfl | hc
      · exact e
      · exact split_one hr c hc
theorem one_part {x : List UInt8} {L : List (List UInt8)} (h : partsR (47 :: x) = (L, true)) (h1 : L.length = 1) : okNm x := by
  unfold partsR at h
  split at h
  · injection h with h _
    rw [← h] at h1
    exact absurd h1 (by decide)
  · split at h
    · rename_i e0 e
      injection h with h _
      have h : splitS x = L := h
      rw [← h] at h1
      exact ⟨fun ex => e0 (by rw [ex]), split_one h1⟩
    · injection h with _ h
      exact absurd h (by decide)
theorem under_path {l : List (List UInt8)} {x : List UInt8} (h : ∀ y ∈ l, okNm y) : under (pathL l) ++ x = pathL (l ++ [x]) := by
  rw [path_ne (l := l ++ [x]) (by simp), List.flatMap_append]
  by_cases e : l = []
  · rw [e, show under (pathL []) = [47] by decide +kernel]; simp
  · have hl : (pathL l).getLast? ≠ some 47 := by
      rw [path_ne e]
      obtain ⟨i, y, rfl⟩ : ∃ i y, l = i ++ [y] := ⟨l.dropLast, l.getLast e, (List.dropLast_concat_getLast e).symm⟩
      have hy := h y (by simp)
      rw [List.flatMap_append]
      show (_ ++ (47 :: y ++ [])).getLast? ≠ _
      rw [List.append_nil, List.getLast?_append, List.getLast?_cons]
      obtain ⟨j, c, rfl⟩ : ∃ j c, y = j ++ [c] := ⟨y.dropLast, y.getLast hy.1, (List.dropLast_concat_getLast hy.1).symm⟩
      have := hy.2 c (by simp)
      simpa using this
    unfold under
    rw [if_neg hl, path_ne e]
    simp
theorem follow_snoc : ∀ (l : List ByteArray) (n k : ND) (x : ByteArray), followR n l = some k → followR n (l ++ [x]) = kidR k x
  | [], n, k, x, h => by
    injection (show some n = some k from h) with h
    rw [h]
    show (match kidR k x with
      | none => none
      | some k => some k) = _
    cases kidR k x <;> rfl
  | y :: l, n, k, x, h => by
    have h : (match kidR n y with
      | none => none
      | some k => followR k l) = some k := h
    show (match kidR n y with
      | none => none
      | some k => followR k (l ++ [x])) = _
    cases e : kidR n y with
    | none => rw [e] at h; exact absurd h (by simp)
    | some z =>
      rw [e] at h
      exact follow_snoc l z k x h
/-- A node whose kids may be told by their names. -/
def KidsOk (m : ND) : Prop := (∀ x ∈ m.ks, okNm x.nm.data.toList) ∧ ∀ i, i < m.ks.length → ∀ j, j < i → (m.ks.getD j nd0).nm ≠ (m.ks.getD i nd0).nm
theorem kid_own {m x : ND} (h : KidsOk m) (hx : x ∈ m.ks) : kidR m x.nm = some x := by
  obtain ⟨i, hi, rfl⟩ := List.getElem_of_mem hx
  have e : m.ks.getD i nd0 = m.ks[i] := by rw [List.getD_eq_getElem?_getD, List.getElem?_eq_getElem hi]; rfl
  have := find_take (f := fun y : ND => decide (y.nm = (m.ks[i]).nm)) (d := nd0) hi (fun j hj => decide_eq_false (by rw [← e]; exact h.2 i hi j hj)) (by rw [e]; exact decide_eq_true rfl)
  rw [e] at this
  exact this
theorem baL_snoc (l : List (List UInt8)) (x : ByteArray) : baL (l ++ [x.data.toList]) = baL l ++ [x] := by
  unfold baL
  rw [List.map_append]; rfl
theorem walk_found (n0 : ND) : ∀ (k : Nat) (l : List (List UInt8)) (n : ND), l.length + k ≤ 8 → (∀ x ∈ l, okNm x) → followR n0 (baL l) = some n → (∀ q m, (q, m) ∈ walkR k (pathL l) n → KidsOk m) → ∀ q m, (q, m) ∈ walkR k (pathL l) n → findR n0 q = some m
  | 0, _, _, _, _, _, _, q, m, h => absurd (show (q, m) ∈ ([] : List (List UInt8 × ND)) from h) List.not_mem_nil
  | k + 1, l, n, hk, hl, hf, H, q, m, h => by
    have e : walkR (k + 1) (pathL l) n = (pathL l, n) :: n.ks.flatMap fun x => walkR k (under (pathL l) ++ x.nm.data.toList) x := rfl
    rw [e] at h H
    rcases List.mem_cons.1 h with h | h
    · injection h with h1 h2
      rw [h1, h2]
      unfold findR
      rw [parts_path (by omega) hl]
      exact hf
    · obtain ⟨x, hx, h⟩ := List.mem_flatMap.1 h
      have hK := H _ _ List.mem_cons_self
      have hox := hK.1 x hx
      have hin : ∀ q m, (q, m) ∈ walkR k (pathL (l ++ [x.nm.data.toList])) x → KidsOk m := fun q m hq => H q m (List.mem_cons_of_mem _ (List.mem_flatMap.2 ⟨x, hx, by rw [under_path hl]; exact hq⟩))
      rw [under_path hl] at h
      refine walk_found n0 k (l ++ [x.nm.data.toList]) x (by rw [List.length_append]; simp only [List.length_cons, List.length_nil]; omega) (fun y hy => ?_) ?_ hin q m h
      · rcases List.mem_append.1 hy with hy | hy
        · exact hl y hy
        · rw [List.mem_singleton] at hy
          rw [hy]; exact hox
      · rw [baL_snoc, follow_snoc _ _ _ _ hf]
        exact kid_own hK hx
/-- Each node is found at its path. -/
theorem walk_finds {n : ND} (H : ∀ q m, (q, m) ∈ walkR 8 [47] n → KidsOk m) : ∀ q m, (q, m) ∈ walkR 8 [47] n → findR n q = some m :=
  walk_found n 8 [] n (Nat.le_refl _) (fun _ hx => absurd hx List.not_mem_nil) rfl H
theorem joinB_ba (l : List (List UInt8)) : joinB (baL l) = pathL l := by
  unfold joinB pathL
  by_cases e : l = []
  · rw [e]; rfl
  · have h : baL l ≠ [] := fun h => e (by unfold baL at h; simpa using h)
    rw [if_neg h, if_neg e]
    unfold baL
    rw [List.flatMap_map]
end Go.Proofs.Ytmgfnghegcfhnaa
