/- What EditKeeps says, in plain words. No condition: nothing of the program stands in it. -/
import Derived.Test.YtfcclppgjfkfoaaGreatDoorMg14
import Derived.Test.YtfcclppgjfkfoaaGreatDoorMg8
namespace Go.Proofs.YtfcclppgjfkfoaaGreatDoor
open Go.RowKit

/-- What a change that went through has done. -/
theorem do_ok {n m : ND} {p : List UInt8} {c : CH} (h : doR17 n p c = (m, 0)) : ∃ l, partsR p = (l, true) ∧ (downR n (baL l) c).2 = 0 ∧ m = (downR n (baL l) c).1 ∧ fitsR m = true := by
  unfold doR17 at h
  cases hp : partsR p with
  | mk l b =>
    rw [hp] at h
    cases b with
    | false =>
      rw [if_neg (show ¬ ((l, false).2 = true) by simp)] at h
      injection h with _ h
      exact absurd h (by decide)
    | true =>
      rw [if_pos (show (l, true).2 = true from rfl)] at h
      by_cases h0 : (downR n (baL l) c).2 = 0
      · rw [if_pos (show (downR n (baL (l, true).1) c).2 = 0 from h0)] at h
        obtain ⟨h1, h2⟩ := fits_of h
        exact ⟨l, rfl, h0, h1, by rw [h1]; exact h2⟩
      · rw [if_neg (show ¬ (downR n (baL (l, true).1) c).2 = 0 from h0)] at h
        injection h with _ h
        exact absurd h h0
theorem do_of {n : ND} {p : List UInt8} {c : CH} {l : List (List UInt8)} (hp : partsR p = (l, true)) (h0 : (downR n (baL l) c).2 = 0) (hf : fitsR (downR n (baL l) c).1 = true) : doR17 n p c = ((downR n (baL l) c).1, 0) := by
  unfold doR17
  rw [hp, if_pos (show (l, true).2 = true from rfl), if_pos (show (downR n (baL (l, true).1) c).2 = 0 from h0)]
  exact fits_to hf
theorem find_of {n : ND} {p : List UInt8} {l : List (List UInt8)} (hp : partsR p = (l, true)) : findR n p = followR n (baL l) := by
  unfold findR
  rw [hp, if_pos (show (l, true).2 = true from rfl)]
/-- What is set is there; taken away where there was none it leaves what was. -/
theorem keep_set {n m : ND} {p : List UInt8} {nm vl : ByteArray} (hn : fitsR n = true) (h : doR17 n p ⟨1, nm, vl⟩ = (m, 0)) :
    ∃ x y, findR n p = some x ∧ findR m p = some y ∧ valR y nm = some vl ∧ m.ks.length = n.ks.length ∧ ∀ v, ∃ b, doR17 m p ⟨2, nm, v⟩ = (b, 0) ∧ (valR x nm = none → b = n) := by
  obtain ⟨l, hp, h0, rfl, hf⟩ := do_ok h
  obtain ⟨x, q1, q2, q3⟩ := down_find h0
  refine ⟨x, (hereR x ⟨1, nm, vl⟩).1, by rw [find_of hp]; exact q1, by rw [find_of hp]; exact q3, set_val q2, down_len h0, fun v => ?_⟩
  by_cases hv : valR x nm = none
  · have hb := down_back h0 q1 (set_back (v := v) q2 hv)
    refine ⟨n, ?_, fun _ => rfl⟩
    rw [do_of hp (by rw [hb]) (by rw [hb]; exact hn), hb]
  · have hu : (hereR (hereR x ⟨1, nm, vl⟩).1 ⟨2, nm, v⟩).2 = 0 := by
      have hpv : (propsR ⟨2, nm, v⟩ (hereR x ⟨1, nm, vl⟩).1.ps).2 = true := by
        rw [props_had]
        have := set_val q2
        unfold valR at this
        cases e : (hereR x ⟨1, nm, vl⟩).1.ps.find? fun z : PR => decide (z.nm = nm) with
        | none => rw [e] at this; exact absurd this (by simp)
        | some z => rfl
      generalize (hereR x ⟨1, nm, vl⟩).1 = k at *
      unfold hereR
      rw [if_neg (show ¬ ((2 : Int) = 1) by decide), if_pos rfl, if_pos hpv]
    have hd := down_go q3 hu
    exact ⟨_, do_of hp hd (fits_less (down_le (fun k j hk => unset_le k j hk) _ _ 9 hd) hf), fun e => absurd e hv⟩
/-- The path of a kid. -/
theorem kid_path {p : List UInt8} {l : List (List UInt8)} {x : List UInt8} (hp : partsR p = (l, true)) (h6 : l.length ≤ 6) (hx : okNm x) : partsR (under p ++ x) = (l ++ [x], true) := by
  obtain ⟨_, hl⟩ := parts_ok hp
  have e := under_path (x := x) hl
  rw [join_parts hp] at e
  rw [e]
  refine parts_path (by rw [List.length_append]; simp only [List.length_cons, List.length_nil]; omega) fun y hy => ?_
  rcases List.mem_append.1 hy with hy | hy
  · exact hl y hy
  · rw [List.mem_singleton] at hy
    rw [hy]; exact hx
/-- What is added is there, and taken away it leaves what was. -/
theorem keep_add {n o : ND} {p : List UInt8} {nm vl : ByteArray} (hn : fitsR n = true) (h : doR17 n p ⟨3, nm, vl⟩ = (o, 0)) :
    ∃ l, partsR p = (l, true) ∧ partsR (under p ++ nm.data.toList) = (l ++ [nm.data.toList], true) ∧ findR o (under p ++ nm.data.toList) = some (.mk nm [] []) ∧ ∀ v, doR17 o p ⟨4, nm, v⟩ = (n, 0) := by
  obtain ⟨l, hp, h0, rfl, hf⟩ := do_ok h
  obtain ⟨x, q1, q2, q3⟩ := down_find h0
  obtain ⟨a1, a2⟩ := add_back (v := ByteArray.empty) q2
  have hok := mayKid_ok (here_add q2).1
  have h7 := (parts_ok hp).1
  have hll : (baL l).length = l.length := by unfold baL; rw [List.length_map]
  have h6 : l.length ≤ 6 := by
    have d1 := follow_depth (baL l) _ _ (9 - l.length) q3
    have d2 := kid_depth (7 - l.length) a1
    rw [show 7 - l.length + 2 = 9 - l.length by omega] at d2
    rw [hll, show 9 - l.length + l.length = 9 by omega] at d1
    have := (of_decide_eq_true (show decide (_ ∧ _ ∧ _) = true from hf)).2.2
    omega
  have hk := kid_path hp h6 hok
  refine ⟨l, hp, hk, ?_, fun v => ?_⟩
  · rw [find_of hk, baL_snoc, follow_snoc _ _ _ _ q3]
    exact a1
  · have hb := down_back h0 q1 (add_back (v := v) q2).2
    rw [do_of hp (by rw [hb]) (by rw [hb]; exact hn), hb]
/-- Where the node of a path is there, a change is not refused for want of it. -/
theorem set_some {n x : ND} {p : List UInt8} {nm vl : ByteArray} (h : findR n p = some x) : (doR17 n p ⟨1, nm, vl⟩).2 ≠ 8 := by
  cases hp : partsR p with
  | mk l b =>
    cases b with
    | false =>
      unfold findR at h
      rw [hp, if_neg (show ¬ ((l, false).2 = true) by simp)] at h
      exact absurd h (by simp)
    | true =>
      rw [find_of hp] at h
      unfold doR17
      rw [hp, if_pos (show (l, true).2 = true from rfl)]
      split
      · unfold fitsTo
        split
        · simp
        · split <;> simp
      · rw [show (downR n (baL (l, true).1) ⟨1, nm, vl⟩).2 = (hereR x ⟨1, nm, vl⟩).2 from down_err h]
        unfold hereR
        rw [if_pos rfl]
        split <;> simp
end Go.Proofs.YtfcclppgjfkfoaaGreatDoor

/- Drop and Make of layer 17 in plain words; trees that were changed have few bytes in each part, too. No condition: nothing of the program stands in it. -/
namespace Go.Proofs.YtfcclppgjfkfoaaGreatDoor
open Go.RowKit

/-- A change at the node of names. -/
def doN (n : ND) (l : List ByteArray) (c : CH) : ND × Nat := if (downR n l c).2 = 0 then fitsTo (downR n l c).1 else (nd0, (downR n l c).2)
theorem do_doN {n : ND} {p : List UInt8} {c : CH} (h : (partsR p).2 = true) : doR17 n p c = doN n (baL (partsR p).1) c := if_pos h
theorem do_no {n : ND} {p : List UInt8} {c : CH} (h : (partsR p).2 = false) : doR17 n p c = (nd0, 8) := if_neg (by rw [h]; decide)
/-- The node of a path is taken away. -/
def dropN (n : ND) (L : List ByteArray) : ND × Nat := if L = [] then (nd0, 1) else doN n (L.take (L.length - 1)) ⟨4, L.getD (L.length - 1) ByteArray.empty, ByteArray.empty⟩
def dropR17 (n : ND) (p : List UInt8) : ND × Nat := if (partsR p).2 = true then dropN n (baL (partsR p).1) else (nd0, 8)
/-- What is missing is added, name by name. -/
def makeN : ND → List ByteArray → List ByteArray → ND × Nat
  | n, _, [] => fitsTo n
  | n, d, x :: r => if (followR n (d ++ [x])).isSome = true then makeN n (d ++ [x]) r
    else if (doN n d ⟨3, x, ByteArray.empty⟩).2 = 0 then makeN (doN n d ⟨3, x, ByteArray.empty⟩).1 (d ++ [x]) r else (nd0, (doN n d ⟨3, x, ByteArray.empty⟩).2)
def makeR17 (n : ND) (p : List UInt8) : ND × Nat := if (partsR p).2 = true then makeN n [] (baL (partsR p).1) else (nd0, 8)
theorem baL_take (l : List (List UInt8)) (k : Nat) : (baL l).take k = baL (l.take k) := by unfold baL; rw [List.map_take]
/-- The first names of a path are a path. -/
theorem parts_take {p : List UInt8} (h : (partsR p).2 = true) (k : Nat) : partsR (joinB ((baL (partsR p).1).take k)) = ((partsR p).1.take k, true) := by
  obtain ⟨h7, hok⟩ := parts_ok (p := p) (l := (partsR p).1) (Prod.ext rfl h)
  rw [baL_take, joinB_ba]
  exact parts_path (by rw [List.length_take]; omega) (fun x hx => hok x (List.mem_of_mem_take hx))
theorem do_take {n : ND} {p : List UInt8} {c : CH} (h : (partsR p).2 = true) (k : Nat) : doR17 n (joinB ((baL (partsR p).1).take k)) c = doN n ((baL (partsR p).1).take k) c := by
  have hp := parts_take h k
  rw [do_doN (by rw [hp]), hp, baL_take]
theorem find_take17 {n : ND} {p : List UInt8} (h : (partsR p).2 = true) (k : Nat) : findR n (joinB ((baL (partsR p).1).take k)) = followR n ((baL (partsR p).1).take k) := by
  rw [find_of (parts_take h k), baL_take]
theorem make_step {n : ND} {L : List ByteArray} {k : Nat} (hk : k < L.length) {x : ByteArray} (hx : L.getD k ByteArray.empty = x) :
    makeN n (L.take k) (L.drop k) = if (followR n (L.take (k + 1))).isSome = true then makeN n (L.take (k + 1)) (L.drop (k + 1))
      else if (doN n (L.take k) ⟨3, x, ByteArray.empty⟩).2 = 0 then makeN (doN n (L.take k) ⟨3, x, ByteArray.empty⟩).1 (L.take (k + 1)) (L.drop (k + 1)) else (nd0, (doN n (L.take k) ⟨3, x, ByteArray.empty⟩).2) := by
  have hx' : L[k] = x := by rw [← hx, List.getD_eq_getElem?_getD, List.getElem?_eq_getElem hk]; rfl
  rw [List.drop_eq_getElem_cons hk, makeN, List.take_succ_eq_append_getElem hk, hx']
theorem make_end {n : ND} {L : List ByteArray} : makeN n (L.take L.length) (L.drop L.length) = fitsTo n := by rw [List.drop_length]; rfl

/-- Has each part of so many levels few bytes? -/
def smallR : Nat → ND → Prop
  | 0, _ => True
  | k + 1, n => n.nm.size ≤ 100 ∧ (∀ x ∈ n.ps, lowP x = true) ∧ ∀ x ∈ n.ks, smallR k x
theorem low_parts17 {k : Nat} {n : ND} (h : lowR (k + 1) n = true) : n.nm.size ≤ 100 ∧ n.ps.length ≤ 300 ∧ n.ks.length ≤ 80 ∧ (∀ x ∈ n.ps, lowP x = true) ∧ ∀ x ∈ n.ks, lowR k x = true := by
  unfold lowR at h
  rw [Bool.and_eq_true, Bool.and_eq_true, List.all_eq_true, List.all_eq_true] at h
  obtain ⟨h1, h2, h3⟩ := h
  obtain ⟨q1, q2, q3⟩ := of_decide_eq_true h1
  exact ⟨q1, q2, q3, h2, h3⟩
theorem small_low : ∀ (k : Nat) (n : ND), lowR k n = true → ∀ j, smallR j n
  | 0, _, h, _ => by cases h
  | _ + 1, _, _, 0 => trivial
  | k + 1, n, h, j + 1 => by
    obtain ⟨h1, _, _, h2, h3⟩ := low_parts17 h
    exact ⟨h1, h2, fun x hx => small_low k x (h3 x hx) j⟩
theorem low_of : ∀ (k : Nat) (n : ND), dpR k n = true → smallR k n → (countR k n).a ≤ 64 → (countR k n).b ≤ 256 → lowR k n = true
  | 0, _, h, _, _, _ => by cases h
  | k + 1, n, h, hs, ha, hb => by
    have hk : ∀ x ∈ n.ks, dpR k x = true := fun x hx => by
      unfold dpR at h
      exact List.all_eq_true.1 h x hx
    rw [countR_succ] at ha hb
    have ha : 1 + (csum k n.ks).a ≤ 64 := ha
    have hb : n.ps.length + (csum k n.ks).b ≤ 256 := hb
    have hl := csum_long k (l := n.ks) fun x hx => dp_pos (hk x hx)
    obtain ⟨s1, s2, s3⟩ := hs
    unfold lowR
    rw [Bool.and_eq_true, Bool.and_eq_true, List.all_eq_true, List.all_eq_true]
    refine ⟨decide_eq_true ⟨s1, by omega, by omega⟩, s2, fun x hx => low_of k x (hk x hx) (s3 x hx) ?_ ?_⟩
    · have := csum_mem k hx; omega
    · have := csum_mem k hx; omega
theorem low_more : ∀ (k : Nat) (n : ND), lowR k n = true → lowR (k + 1) n = true
  | 0, _, h => by cases h
  | k + 1, n, h => by
    obtain ⟨h1, h2, h3, h4, h5⟩ := low_parts17 h
    unfold lowR
    rw [Bool.and_eq_true, Bool.and_eq_true, List.all_eq_true, List.all_eq_true]
    exact ⟨decide_eq_true ⟨h1, h2, h3⟩, h4, fun x hx => low_more k x (h5 x hx)⟩
theorem cutSum_le17 (f : ND → Nat) : ∀ (l : List ND) (a : Nat), cutSum f a l ≤ a + (l.map f).sum
  | [], a => by simp [cutSum]
  | x :: r, a => by
    rw [cutSum]
    have ih := cutSum_le17 f r (a + f x)
    rw [List.map_cons, List.sum_cons]
    split <;> omega
theorem sum_csum (k : Nat) (f : ND → Nat) : ∀ (l : List ND), (∀ x ∈ l, f x ≤ (countR k x).a + (countR k x).b) → (l.map f).sum ≤ (csum k l).a + (csum k l).b
  | [], _ => Nat.zero_le _
  | x :: r, h => by
    have e := csum_cons k x r
    have h1 := h x List.mem_cons_self
    have ih := sum_csum k f r fun y hy => h y (List.mem_cons_of_mem _ hy)
    rw [List.map_cons, List.sum_cons]
    omega
theorem size_count : ∀ (k : Nat) (n : ND), sizeR k n ≤ (countR k n).a + (countR k n).b
  | 0, _ => Nat.zero_le _
  | k + 1, n => by
    have h1 := cutSum_le17 (sizeR k) n.ks (1 + n.ps.length)
    have h2 := sum_csum k (sizeR k) n.ks fun x _ => size_count k x
    rw [countR_succ]
    show cutSum (sizeR k) (1 + n.ps.length) n.ks ≤ 1 + (csum k n.ks).a + (n.ps.length + (csum k n.ks).b)
    omega
/-- A tree that fits, with few bytes in each part. -/
theorem low_fits {n : ND} (h : fitsR n = true) (hs : smallR 8 n) : LowR n = true := by
  have hz := sz_of_fits h
  obtain ⟨h1, h2, h3⟩ := of_decide_eq_true (show decide ((countR 9 n).a ≤ 64 ∧ (countR 9 n).b ≤ 256 ∧ (countR 9 n).c ≤ 8) = true from h)
  have hd := dp_of_count 8 n h3
  have e8 := count_le n 1 8
  rw [show 8 + 1 = 9 from rfl] at e8
  have hl := low_of 8 n hd hs (by omega) (by omega)
  have hc := size_count 12 n
  have h12 := hz.2
  unfold LowR
  rw [low_more 11 n (low_more 10 n (low_more 9 n (low_more 8 n hl))), decide_eq_true (by omega)]
  rfl
theorem small_props {c : CH} (h1 : c.nm.size ≤ 100) (h2 : c.vl.size ≤ 300) : ∀ {l : List PR}, (∀ x ∈ l, lowP x = true) → ∀ x ∈ (propsR c l).1, lowP x = true
  | [], _, x, hx => by
    unfold propsR at hx
    split at hx
    · rw [List.mem_singleton] at hx
      rw [hx]
      exact decide_eq_true ⟨h1, h2⟩
    · exact absurd hx List.not_mem_nil
  | y :: r, h, x, hx => by
    have hr := small_props h1 h2 (l := r) fun z hz => h z (List.mem_cons_of_mem _ hz)
    have hy := of_decide_eq_true (show decide (y.nm.size ≤ 100 ∧ y.vl.size ≤ 300) = true from h y List.mem_cons_self)
    unfold propsR at hx
    split at hx
    · simp only at hx
      split at hx
      · exact h x (List.mem_cons_of_mem _ hx)
      · rcases List.mem_cons.1 hx with hx | hx
        · rw [hx]
          exact decide_eq_true ⟨hy.1, h2⟩
        · exact h x (List.mem_cons_of_mem _ hx)
    · rcases List.mem_cons.1 hx with hx | hx
      · rw [hx]; exact h y List.mem_cons_self
      · exact hr x hx
theorem mem_without {nm : ByteArray} : ∀ {l : List ND} {x : ND}, x ∈ withoutR nm l → x ∈ l
  | [], _, h => h
  | y :: r, x, h => by
    rw [withoutR] at h
    split at h
    · exact List.mem_cons_of_mem _ h
    · rcases List.mem_cons.1 h with h | h
      · rw [h]; exact List.mem_cons_self
      · exact List.mem_cons_of_mem _ (mem_without h)
theorem mem_repl {nm : ByteArray} {m : ND} : ∀ {l : List ND} {x : ND}, x ∈ replR nm m l → x = m ∨ x ∈ l
  | [], _, h => .inr h
  | y :: r, x, h => by
    rw [replR] at h
    split at h
    · rcases List.mem_cons.1 h with h | h
      · exact .inl h
      · exact .inr (List.mem_cons_of_mem _ h)
    · rcases List.mem_cons.1 h with h | h
      · rw [h]; exact .inr List.mem_cons_self
      · exact (mem_repl h).imp id (List.mem_cons_of_mem _)
theorem small_nd0 (j : Nat) : smallR j nd0 := by
  cases j with
  | zero => trivial
  | succ j => exact ⟨Nat.zero_le _, fun _ h => absurd h List.not_mem_nil, fun _ h => absurd h List.not_mem_nil⟩
theorem small_here {c : CH} (h1 : c.nm.size ≤ 100) (h2 : c.vl.size ≤ 300) (n : ND) (j : Nat) (h : smallR j n) : smallR j (hereR n c).1 := by
  cases j with
  | zero => trivial
  | succ j =>
    obtain ⟨s1, s2, s3⟩ := h
    unfold hereR
    split
    · split
      · exact ⟨s1, small_props h1 h2 s2, s3⟩
      · exact small_nd0 _
    · split
      · split
        · exact ⟨s1, small_props h1 h2 s2, s3⟩
        · exact small_nd0 _
      · split
        · split
          · exact small_nd0 _
          · split
            · exact small_nd0 _
            · refine ⟨s1, s2, fun x hx => ?_⟩
              rcases List.mem_append.1 hx with hx | hx
              · exact s3 x hx
              · rw [List.mem_singleton] at hx
                rw [hx]
                cases j with
                | zero => trivial
                | succ j => exact ⟨h1, fun _ h => absurd h List.not_mem_nil, fun _ h => absurd h List.not_mem_nil⟩
        · split
          · exact ⟨s1, s2, fun x hx => s3 x (mem_without hx)⟩
          · exact small_nd0 _
theorem small_down {c : CH} (h1 : c.nm.size ≤ 100) (h2 : c.vl.size ≤ 300) : ∀ (l : List ByteArray) (n : ND) (j : Nat), smallR j n → smallR j (downR n l c).1
  | [], n, j, h => small_here h1 h2 n j h
  | x :: l, n, 0, _ => trivial
  | x :: l, n, j + 1, h => by
    rw [downR]
    cases e : kidR n x with
    | none => exact small_nd0 _
    | some k =>
      obtain ⟨s1, s2, s3⟩ := h
      have ih := small_down h1 h2 l k j (s3 k (kid_mem e))
      simp only
      split
      · refine ⟨s1, s2, fun y hy => ?_⟩
        rcases mem_repl hy with hy | hy
        · rw [hy]; exact ih
        · exact s3 y hy
      · exact small_nd0 _
theorem doN_ok {n m : ND} {l : List ByteArray} {c : CH} (h : doN n l c = (m, 0)) : (downR n l c).2 = 0 ∧ m = (downR n l c).1 ∧ fitsR m = true := by
  unfold doN at h
  by_cases h0 : (downR n l c).2 = 0
  · rw [if_pos h0] at h
    obtain ⟨e, hf⟩ := fits_of h
    subst e
    exact ⟨h0, rfl, hf⟩
  · rw [if_neg h0] at h
    injection h with _ h
    exact absurd h h0
/-- What was changed has few bytes in each part. -/
theorem low_doN {n m : ND} {l : List ByteArray} {c : CH} (hn : LowR n = true) (h1 : c.nm.size ≤ 100) (h2 : c.vl.size ≤ 300) (h : doN n l c = (m, 0)) : LowR m = true ∧ fitsR m = true := by
  obtain ⟨_, e, hf⟩ := doN_ok h
  refine ⟨low_fits hf ?_, hf⟩
  rw [e]
  exact small_down h1 h2 l n 8 (small_low 12 n (low_and hn).1 8)
theorem low_do {n m : ND} {p : List UInt8} {c : CH} (hn : LowR n = true) (h1 : c.nm.size ≤ 100) (h2 : c.vl.size ≤ 300) (h : doR17 n p c = (m, 0)) : LowR m = true ∧ fitsR m = true := by
  cases hp : (partsR p).2 with
  | false => rw [do_no hp] at h; injection h with _ h; exact absurd h (by decide)
  | true => rw [do_doN hp] at h; exact low_doN hn h1 h2 h
/-- What was added at a path, dropped at its own path, leaves what was. -/
theorem drop_add {n o : ND} {p : List UInt8} {nm vl : ByteArray} (hn : fitsR n = true) (h : doR17 n p ⟨3, nm, vl⟩ = (o, 0)) : dropR17 o (under p ++ nm.data.toList) = (n, 0) := by
  obtain ⟨l, hp, hq, _, hb⟩ := keep_add hn h
  have hb := hb ByteArray.empty
  rw [do_doN (by rw [hp])] at hb
  rw [hp] at hb
  unfold dropR17
  rw [hq, if_pos rfl]
  show dropN o (baL (l ++ [nm.data.toList])) = _
  rw [baL_snoc]
  unfold dropN
  rw [if_neg (by simp), List.length_append, List.length_singleton, Nat.add_sub_cancel, List.take_left', List.getD_eq_getElem?_getD, List.getElem?_append_right (Nat.le_refl _), Nat.sub_self]
  · exact hb
  · rfl
end Go.Proofs.YtfcclppgjfkfoaaGreatDoor

/- What the document's Count and Fits of trees return. Conditions: a tree that is read, of at most 2^40 nodes and properties. -/
namespace Go.Proofs.YtfcclppgjfkfoaaGreatDoor
open Go.RowKit

set_option maxHeartbeats 1600000 in
set_option maxRecDepth 100000 in
theorem rCount_any (G : Nat → Prop) (n : ND) (v2 v3 : Value) (w : World) (ha : (countR 9 n).a ≤ 1099511627776) (hb : (countR 9 n).b ≤ 1099511627776) (hN : NdAt w G n v2 v3) :
    Calls Tryz.prog 28 #[.agg #[.string n.nm, v2, v3]] w fun e w' => e = .returned (c3V (countR 9 n)) ∧ Below w.heap.size w w' := by
  obtain ⟨W1, hW1⟩ : ∃ W1, W1 = (w.alloc (.cells #[.string n.nm, v2, v3] 28)).alloc (.cells (c3C 0 0 0) 68) := ⟨_, rfl⟩
  obtain ⟨g8, hg8⟩ : ∃ g8, g8 = w.heap.size := ⟨_, rfl⟩
  obtain ⟨g4, hg4⟩ : ∃ g4, g4 = w.heap.size + 1 := ⟨_, rfl⟩
  have hB1 : Below w.heap.size w W1 := by rw [hW1]; exact ((Below.refl _ _).alloc (Nat.le_refl _) _).alloc (by rw [sz_alloc]; omega) _
  have hA8 : Arr W1 g8 28 #[.string n.nm, v2, v3] := by rw [hW1, hg8]; exact (Arr.new w _ _).alloc _
  have hA4 : Arr W1 g4 68 (c3C 0 0 0) := by rw [hW1, hg4]; exact Arr.new1 w _ _ _
  have HB1 := Lib.hid hB1
  have HA4 := Lib.hid hA4
  have hz1 := hB1.size
  have hg4w : w.heap.size ≤ g4 := by omega
  have k0 : W1.cell? ⟨g8, 0, none⟩ = some (.string n.nm) := hA8.cell 0
  have k1 : W1.cell? ⟨g8, 1, none⟩ = some v2 := hA8.cell 1
  have k2 : W1.cell? ⟨g8, 2, none⟩ = some v3 := hA8.cell 2
  have HC := Lib.hid (rcount_any 9 G n v2 v3 W1 (by omega) ha hb (nd_below hN hB1))
  rcases hxc : countR 9 n with ⟨a, b, c⟩
  rw [hxc] at HC
  clear hN hB1 hA8 hA4 ha hb hxc
  go_enter Tryz.func28, Tryz.ntmps28
  go_upto_region 1 with fail
  change Code.wp _ _ _ _ ((w.alloc (.cells #[.string n.nm, v2, v3] 28)).alloc (.cells (c3C 0 0 0) 68))
  rw [← hW1, ← hg4, ← hg8]
  clear hW1 hg4 hg8
  go_wp2_with fail
  refine HC.out.mono ?_
  rintro e w3 ⟨rfl, hb3⟩
  have HB3 := Lib.hid (HB1.out.trans (hb3.mono hz1))
  have HA43 := Lib.hid (HA4.out.below hb3 HA4.out.lt)
  clear hb3 HC
  go_wp2_with (refine wpList_store_row rfl 68 (.tmp 2) (.tmp 4) rfl g4 (c3C a b c) rfl rfl _ _ HA43.out (info3 _ _ _) rfl (c3_one _ _ _) ?_)
  exact bodyPost_ret (v := c3V ⟨a, b, c⟩) (results_cell_row rfl _ _ g4 _ (c3C a b c) _ _ rfl (HA43.out.row _) Tryz.underlying68 rfl (info3 _ _ _)) rfl ⟨rfl, below_setRow HB3.out hg4w _⟩

theorem fit_bool (a b c : Nat) : decide (a ≤ 64 ∧ b ≤ 256 ∧ c ≤ 8) = (decide ((a : Int) ≤ 64) && (decide ((b : Int) ≤ 256) && decide ((c : Int) ≤ 8))) := by
  by_cases h1 : a ≤ 64 <;> by_cases h2 : b ≤ 256 <;> by_cases h3 : c ≤ 8
  all_goals
    have e1 : ((a : Int) ≤ 64) = (a ≤ 64) := by apply propext; omega
    have e2 : ((b : Int) ≤ 256) = (b ≤ 256) := by apply propext; omega
    have e3 : ((c : Int) ≤ 8) = (c ≤ 8) := by apply propext; omega
    simp only [e1, e2, e3, h1, h2, h3]; decide
set_option maxHeartbeats 1600000 in
set_option maxRecDepth 100000 in
theorem rFits_any (G : Nat → Prop) (n : ND) (v2 v3 : Value) (w : World) (ha : (countR 9 n).a ≤ 1099511627776) (hb : (countR 9 n).b ≤ 1099511627776) (hN : NdAt w G n v2 v3) :
    Calls Tryz.prog 11 #[.agg #[.string n.nm, v2, v3]] w fun e w' => e = .returned (.bool (fitsR n)) ∧ Below w.heap.size w w' := by
  obtain ⟨W1, hW1⟩ : ∃ W1, W1 = w.alloc (.cells #[.string n.nm, v2, v3] 28) := ⟨_, rfl⟩
  obtain ⟨g8, hg8⟩ : ∃ g8, g8 = w.heap.size := ⟨_, rfl⟩
  have hB1 : Below w.heap.size w W1 := by rw [hW1]; exact (Below.refl _ _).alloc (Nat.le_refl _) _
  have hA8 : Arr W1 g8 28 #[.string n.nm, v2, v3] := by rw [hW1, hg8]; exact Arr.new w _ _
  have HB1 := Lib.hid hB1
  have hz1 := hB1.size
  have k0 : W1.cell? ⟨g8, 0, none⟩ = some (.string n.nm) := hA8.cell 0
  have k1 : W1.cell? ⟨g8, 1, none⟩ = some v2 := hA8.cell 1
  have k2 : W1.cell? ⟨g8, 2, none⟩ = some v3 := hA8.cell 2
  have HC := Lib.hid (rCount_any G n v2 v3 W1 ha hb (nd_below hN hB1))
  have HE : Hid (fitsR n = (decide (((countR 9 n).a : Int) ≤ 64) && (decide (((countR 9 n).b : Int) ≤ 256) && decide (((countR 9 n).c : Int) ≤ 8)))) := fit_bool _ _ _
  generalize fitsR n = R at *
  rcases hxc : countR 9 n with ⟨a, b, c⟩
  rw [hxc] at HC HE
  clear hN hB1 hA8 ha hb hxc
  go_enter Tryz.func11, Tryz.ntmps11
  go_upto_region 1 with fail
  rw [← hW1, ← hg8]
  clear hW1 hg8
  go_wp2_with fail
  refine HC.out.mono ?_
  rintro e w3 ⟨rfl, hb3⟩
  have HB3 := Lib.hid (HB1.out.trans (hb3.mono hz1))
  have hz3 := HB3.out.size
  have HA70 := Lib.hid (Arr.new w3 68 (c3C 0 0 0))
  have HA7 := Lib.hid (HA70.out.row (c3C a b c))
  have HB4 : Hid (Below w.heap.size w ((w3.alloc (.cells (c3C 0 0 0) 68)).setRow w3.heap.size (c3C a b c))) := below_setRow (HB3.out.alloc hz3 _) hz3 _
  clear hb3 HC
  go_upto_region 2 with (first
    | (refine wpList_store_row rfl 68 (.tmp 3) (.tmp 5) rfl w3.heap.size (c3C a b c) rfl rfl _ _ HA70.out (info3 _ _ _) rfl (c3_one _ _ _) ?_))
  change Code.wp _ _ _ _ ((w3.alloc (.cells (c3C 0 0 0) 68)).setRow w3.heap.size (c3C a b c))
  generalize (w3.alloc (.cells (c3C 0 0 0) 68)).setRow w3.heap.size (c3C a b c) = w4 at *
  generalize w3.heap.size = g7 at *
  have k70 : w4.cell? ⟨g7, 0, none⟩ = some (.int .i64 a) := HA7.out.cell 0
  have k71 : w4.cell? ⟨g7, 1, none⟩ = some (.int .i64 b) := HA7.out.cell 1
  have k72 : w4.cell? ⟨g7, 2, none⟩ = some (.int .i64 c) := HA7.out.cell 2
  cases d1 : decide ((a : Int) ≤ 64) with
  | false =>
    rw [d1] at HE
    go_wp2
    go_ret
    exact ⟨by rw [HE.out]; rfl, HB4.out⟩
  | true =>
    rw [d1] at HE
    cases d2 : decide ((b : Int) ≤ 256) with
    | false =>
      rw [d2] at HE
      go_wp2
      go_ret
      exact ⟨by rw [HE.out]; rfl, HB4.out⟩
    | true =>
      rw [d2] at HE
      cases d3 : decide ((c : Int) ≤ 8) with
      | false =>
        rw [d3] at HE
        go_wp2
        go_ret
        exact ⟨by rw [HE.out]; rfl, HB4.out⟩
      | true =>
        rw [d3] at HE
        go_wp2
        go_ret
        exact ⟨by rw [HE.out]; rfl, HB4.out⟩
end Go.Proofs.YtfcclppgjfkfoaaGreatDoor

/- The document's down, fits and Do of layer 17. Conditions: a tree of few parts that is read; paths of at most 2^30 bytes, names of at most 2^40. -/
namespace Go.Proofs.YtfcclppgjfkfoaaGreatDoor
open Go.RowKit

/-- A result that was laid in a block of its own, beside a tree that stays. -/
theorem nd_row {w : World} {G : Nat → Prop} {B g : Nat} {n : ND} {y z : Value} (h : NdAt w (OrNew G B) n y z) (cs : Array Value) (hg : ∀ k, OrNew G B k → k ≠ g) : NdAt (w.setRow g cs) (OrNew G B) n y z :=
  h.kept (moved_setRow w g cs) fun k hk e => hg k hk e

end Go.Proofs.YtfcclppgjfkfoaaGreatDoor

/- The document's Do of layer 17. Conditions: a tree of few parts that is read; paths of at most 2^30 bytes, names of at most 2^40. -/
namespace Go.Proofs.YtfcclppgjfkfoaaGreatDoor
open Go.RowKit

end Go.Proofs.YtfcclppgjfkfoaaGreatDoor

/- The document's Drop of layer 17. Conditions: a tree of few parts that is read; paths of at most 10^6 bytes. -/
namespace Go.Proofs.YtfcclppgjfkfoaaGreatDoor
open Go.RowKit

theorem flat_mem {l : List (List UInt8)} {x : List UInt8} (h : x ∈ l) : x.length ≤ (l.flatMap (47 :: ·)).length := by
  induction l with
  | nil => cases h
  | cons y l ih =>
    rw [List.flatMap_cons, List.length_append, List.length_cons]
    rcases List.mem_cons.1 h with h | h
    · subst h; omega
    · have := ih h; omega
/-- A path's names, and what its first names are joined to, are not longer than it. -/
theorem path_names {p : List UInt8} (h : (partsR p).2 = true) (k : Nat) : ((baL (partsR p).1).getD k ByteArray.empty).size ≤ p.length := by
  have hj := join_parts (p := p) (l := (partsR p).1) (Prod.ext rfl h)
  by_cases hk : k < (baL (partsR p).1).length
  · have hk' : k < (partsR p).1.length := by rwa [baL_len] at hk
    have e : (baL (partsR p).1).getD k ByteArray.empty = ⟨((partsR p).1[k]).toArray⟩ := by
      unfold baL
      rw [List.getD_eq_getElem?_getD, List.getElem?_map, List.getElem?_eq_getElem hk']
      rfl
    rw [e]
    show ((partsR p).1[k]).toArray.size ≤ _
    rw [List.size_toArray]
    have hm : (partsR p).1[k] ∈ (partsR p).1 := List.getElem_mem _
    have hne : (partsR p).1 ≠ [] := fun e => by rw [e] at hk'; cases hk'
    have h2 := flat_mem hm
    rw [← path_ne hne, hj] at h2
    exact h2
  · rw [List.getD_eq_getElem?_getD, List.getElem?_eq_none (by omega)]
    exact Nat.zero_le _
theorem path_join {p : List UInt8} (h : (partsR p).2 = true) (k : Nat) : (joinB ((baL (partsR p).1).take k)).length ≤ p.length + 1 := by
  have hj := join_parts (p := p) (l := (partsR p).1) (Prod.ext rfl h)
  rw [baL_take, joinB_ba]
  by_cases e : (partsR p).1.take k = []
  · rw [e]; show 1 ≤ _; omega
  · have e2 : (partsR p).1 ≠ [] := fun h => e (by rw [h, List.take_nil])
    have h3 : ((partsR p).1.flatMap (47 :: ·)).length = (((partsR p).1.take k).flatMap (47 :: ·)).length + (((partsR p).1.drop k).flatMap (47 :: ·)).length := by
      rw [← List.length_append, ← List.flatMap_append, List.take_append_drop]
    rw [path_ne e]
    rw [path_ne e2] at hj
    have h4 := congrArg List.length hj
    omega
theorem RdT.take {w : World} {A : Option Addr} {l : List ByteArray} (h : RdT w A l) (k : Nat) : RdT w A (l.take k) := by
  rcases h with h | ⟨b, off, rfl, hc⟩
  · exact .inl (by rw [h, List.take_nil])
  · refine .inr ⟨b, off, rfl, fun j hj => ?_⟩
    rw [List.length_take] at hj
    rw [hc j (by omega), List.getD_eq_getElem?_getD, List.getD_eq_getElem?_getD, List.getElem?_take_of_lt (by omega)]

end Go.Proofs.YtfcclppgjfkfoaaGreatDoor
