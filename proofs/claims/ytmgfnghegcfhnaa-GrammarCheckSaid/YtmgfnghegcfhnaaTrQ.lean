/- A tree that fits is that of its tokens; and the tokens of a tree are those that it was made of. No condition: nothing of the program stands in it. -/
import Derived.Test.YtmgfnghegcfhnaaTrPlain
namespace Go.Proofs.Ytmgfnghegcfhnaa

theorem runB_app : ∀ (l r : List TK) (b : BD), runB b (l ++ r) = match runB b l with
    | (b', 0) => runB b' r
    | (b', e + 1) => (b', e + 1)
  | [], _, _ => rfl
  | t :: l, r, b => by
    show (match takeR b t with
      | (b', 0) => runB b' (l ++ r)
      | (b', e + 1) => (b', e + 1)) = match (match takeR b t with
      | (b', 0) => runB b' l
      | (b', e + 1) => (b', e + 1)) with
      | (b', 0) => runB b' r
      | (b', e + 1) => (b', e + 1)
    rcases takeR b t with ⟨b', e⟩
    cases e with
    | zero => exact runB_app l r b'
    | succ e => rfl
theorem runB_ok {l r : List TK} {b b' : BD} (h : runB b l = (b', 0)) : runB b (l ++ r) = runB b' r := by rw [runB_app, h]
theorem runB_cons {t : TK} {l : List TK} {b b' : BD} (h : takeR b t = (b', 0)) : runB b (t :: l) = runB b' l := by
  show (match takeR b t with
    | (b', 0) => runB b' l
    | (b', e + 1) => (b', e + 1)) = _
  rw [h]
/-- Is a tree at most so deep? -/
def dpR : Nat → ND → Bool
  | 0, _ => false
  | k + 1, n => n.ks.all (dpR k)
theorem onLast_snoc (f : ND → ND) (l : List ND) (x : ND) : onLast f (l ++ [x]) = l ++ [f x] := by
  unfold onLast
  rw [List.dropLast_concat]
  congr 2
  simp
theorem getLastD_snoc (l : List ND) (x d : ND) : (l ++ [x]).getLastD d = x := by simp

theorem take_begin (b : BD) (t : TK) (hk : t.kd = 1) (hd : b.dn = false) (h8 : b.op.length < 8) (hn : b.ns < 64) : takeR b t = ({ b with op := b.op ++ [.mk t.nm [] []], ns := b.ns + 1 }, 0) := by
  unfold takeR
  rw [if_neg (by omega), if_neg (by rw [hd, hk]; simp), if_pos hk, if_neg (by omega), if_neg (by omega)]
theorem take_prop (b : BD) (t : TK) (r : List ND) (x : ND) (hk : t.kd = 3) (hd : b.dn = false) (ho : b.op = r ++ [x]) (hx : x.ks = []) (hp : b.pn < 256) : takeR b t = ({ b with op := r ++ [addProp x ⟨t.nm, t.vl⟩], pn := b.pn + 1 }, 0) := by
  unfold takeR
  rw [if_neg (by omega), if_neg (by rw [hd, ho]; simp [hk]), if_neg (by omega), if_pos hk, ho, getLastD_snoc, hx, if_neg (by simp), if_neg (by omega), onLast_snoc]
theorem take_end_root (b : BD) (t : TK) (x : ND) (hk : t.kd = 2) (hd : b.dn = false) (ho : b.op = [x]) : takeR b t = ({ b with op := [], dn := true, rt := x }, 0) := by
  unfold takeR
  rw [if_neg (by omega), if_neg (by rw [hd, ho]; simp [hk]), if_neg (by omega), if_neg (by omega), ho]
  exact if_pos rfl
theorem take_end_kid (b : BD) (t : TK) (r : List ND) (y x : ND) (hk : t.kd = 2) (hd : b.dn = false) (ho : b.op = r ++ [y] ++ [x]) : takeR b t = ({ b with op := r ++ [addKid y x] }, 0) := by
  unfold takeR
  rw [if_neg (by omega), if_neg (by rw [hd, ho]; simp [hk]), if_neg (by omega), if_neg (by omega), ho, if_neg (by simp), getLastD_snoc, List.dropLast_concat, onLast_snoc]

/-- The state behind a whole node. -/
def putN (b : BD) (n : ND) (a p : Nat) : BD := if b.op = [] then { b with dn := true, rt := n, ns := b.ns + a, pn := b.pn + p } else { b with op := onLast (fun y => addKid y n) b.op, ns := b.ns + a, pn := b.pn + p }

theorem run_props : ∀ (ps : List PR) (b : BD) (r : List ND) (x : ND), b.dn = false → b.op = r ++ [x] → x.ks = [] → b.pn + ps.length ≤ 256 →
    runB b (ps.map tokP) = ({ b with op := r ++ [.mk x.nm (x.ps ++ ps) []], pn := b.pn + ps.length }, 0)
  | [], b, r, x, _, ho, hx, _ => by
    have e : (ND.mk x.nm (x.ps ++ []) []) = x := by rw [List.append_nil, ← hx]; exact x.eta.symm
    show (b, 0) = _
    rw [e, ← ho]; rfl
  | p :: ps, b, r, x, hd, ho, hx, hl => by
    rw [List.length_cons] at hl
    rw [List.map_cons, runB_cons (take_prop b (tokP p) r x rfl hd ho hx (by omega))]
    rw [run_props ps { b with op := r ++ [addProp x ⟨(tokP p).nm, (tokP p).vl⟩], pn := b.pn + 1 } r (addProp x ⟨(tokP p).nm, (tokP p).vl⟩) hd rfl hx (by show b.pn + 1 + ps.length ≤ 256; omega)]
    congr 2
    · congr 3
      show x.ps ++ [p] ++ ps = x.ps ++ p :: ps
      simp
    · show b.pn + 1 + ps.length = b.pn + (ps.length + 1); omega

/-- The counts of a tree and of its kids. -/
def csum (k : Nat) (l : List ND) : CT := l.foldr (fun x y => ctAdd (countR k x) y) ⟨0, 0, 0⟩
theorem foldl_ct (k : Nat) : ∀ (l : List ND) (c : CT), l.foldl (fun x y => ctAdd x (countR k y)) c = ⟨c.a + (csum k l).a, c.b + (csum k l).b, max c.c (csum k l).c⟩
  | [], c => by show c = ⟨c.a + 0, c.b + 0, max c.c 0⟩; cases c; simp
  | x :: l, c => by
    rw [List.foldl_cons, foldl_ct k l]
    show _ = CT.mk (c.a + ((countR k x).a + (csum k l).a)) (c.b + ((countR k x).b + (csum k l).b)) (max c.c (max (countR k x).c (csum k l).c))
    simp only [ctAdd]
    congr 1
    · omega
    · omega
    · omega
theorem countR_succ (k : Nat) (n : ND) : countR (k + 1) n = ⟨1 + (csum k n.ks).a, n.ps.length + (csum k n.ks).b, (csum k n.ks).c + 1⟩ := by
  show CT.mk (n.ks.foldl (fun x y => ctAdd x (countR k y)) ⟨1, n.ps.length, 0⟩).a (n.ks.foldl (fun x y => ctAdd x (countR k y)) ⟨1, n.ps.length, 0⟩).b ((n.ks.foldl (fun x y => ctAdd x (countR k y)) ⟨1, n.ps.length, 0⟩).c + 1) = _
  rw [foldl_ct]
  simp
theorem csum_kid (k : Nat) : ∀ (l : List ND) (x : ND), x ∈ l → (countR k x).c ≤ (csum k l).c
  | y :: l, x, h => by
    show _ ≤ max (countR k y).c (csum k l).c
    rcases List.mem_cons.1 h with rfl | h
    · omega
    · have := csum_kid k l x h; omega
/-- A tree whose depth is told as at most k is at most so deep. -/
theorem dp_of_count : ∀ (k : Nat) (n : ND), (countR (k + 1) n).c ≤ k → dpR k n = true
  | 0, n, h => by rw [countR_succ] at h; simp only at h; omega
  | k + 1, n, h => by
    rw [countR_succ] at h
    simp only at h
    show n.ks.all (dpR k) = true
    rw [List.all_eq_true]
    intro x hx
    have := csum_kid (k + 1) n.ks x hx
    exact dp_of_count k x (by omega)
/-- Beyond its depth a tree counts the same. -/
theorem count_stable : ∀ (k : Nat) (n : ND), dpR k n = true → countR (k + 1) n = countR k n
  | 0, _, h => by cases h
  | k + 1, n, h => by
    have h' : n.ks.all (dpR k) = true := h
    rw [List.all_eq_true] at h'
    have e : ∀ l : List ND, (∀ x ∈ l, dpR k x = true) → csum (k + 1) l = csum k l := by
      intro l
      induction l with
      | nil => intro _; rfl
      | cons x l ih =>
        intro hl
        show ctAdd (countR (k + 1) x) (csum (k + 1) l) = ctAdd (countR k x) (csum k l)
        rw [count_stable k x (hl x (by simp)), ih (fun y hy => hl y (by simp [hy]))]
    rw [countR_succ, countR_succ, e n.ks h']

theorem putN_root (b : BD) (n : ND) (a p : Nat) (h : b.op = []) : putN b n a p = { b with dn := true, rt := n, ns := b.ns + a, pn := b.pn + p } := by unfold putN; rw [if_pos h]
theorem putN_kid (b : BD) (n y : ND) (r : List ND) (a p : Nat) (h : b.op = r ++ [y]) : putN b n a p = { b with op := r ++ [addKid y n], ns := b.ns + a, pn := b.pn + p } := by
  unfold putN; rw [if_neg (by rw [h]; simp), h, onLast_snoc]
mutual
/-- The tokens of a node make it. -/
theorem run_node : ∀ (k : Nat) (n : ND) (b : BD), b.dn = false → dpR k n = true → b.op.length + k ≤ 8 → b.ns + (countR k n).a ≤ 64 → b.pn + (countR k n).b ≤ 256 →
    runB b (tokR k n) = (putN b n (countR k n).a (countR k n).b, 0)
  | 0, _, _, _, h, _, _, _ => by cases h
  | k + 1, n, b, hd, hdp, hl, ha, hb => by
    rw [countR_succ] at ha hb ⊢
    simp only at ha hb ⊢
    have hdk : ∀ x ∈ n.ks, dpR k x = true := List.all_eq_true.1 hdp
    have h1 := take_begin b ⟨1, n.nm, ByteArray.empty⟩ rfl hd (by omega) (by omega)
    have h2 := run_props n.ps { b with op := b.op ++ [.mk n.nm [] []], ns := b.ns + 1 } b.op (.mk n.nm [] []) hd rfl rfl (by show b.pn + n.ps.length ≤ 256; omega)
    have h3 := run_kids k n.ks { b with op := b.op ++ [.mk n.nm n.ps []], ns := b.ns + 1, pn := b.pn + n.ps.length } b.op (.mk n.nm n.ps []) hd rfl hdk (by omega) (by show b.ns + 1 + (csum k n.ks).a ≤ 64; omega) (by show b.pn + n.ps.length + (csum k n.ks).b ≤ 256; omega)
    show runB b ((⟨1, n.nm, ByteArray.empty⟩ :: n.ps.map tokP) ++ n.ks.flatMap (tokR k) ++ [⟨2, ByteArray.empty, ByteArray.empty⟩]) = _
    rw [List.append_assoc, List.cons_append, runB_cons h1, runB_ok h2]
    have e2 : (ND.mk n.nm ([] ++ n.ps) []) = .mk n.nm n.ps [] := rfl
    show runB { b with op := b.op ++ [.mk n.nm n.ps []], ns := b.ns + 1, pn := b.pn + n.ps.length } (n.ks.flatMap (tokR k) ++ [⟨2, ByteArray.empty, ByteArray.empty⟩]) = _
    rw [runB_ok h3]
    have e3 : (ND.mk (ND.mk n.nm n.ps []).nm (ND.mk n.nm n.ps []).ps ((ND.mk n.nm n.ps []).ks ++ n.ks)) = n := n.eta.symm
    rw [e3]
    rcases List.eq_nil_or_concat b.op with ho | ⟨r, y, ho⟩
    · rw [runB_cons (take_end_root { b with op := b.op ++ [n], ns := b.ns + 1 + (csum k n.ks).a, pn := b.pn + n.ps.length + (csum k n.ks).b } _ n rfl hd (by rw [ho]; rfl)), putN_root _ _ _ _ ho]
      show (BD.mk [] true n (b.ns + 1 + (csum k n.ks).a) (b.pn + n.ps.length + (csum k n.ks).b), 0) = _
      rw [ho]
      congr 2 <;> omega
    · rw [List.concat_eq_append] at ho
      rw [runB_cons (take_end_kid { b with op := b.op ++ [n], ns := b.ns + 1 + (csum k n.ks).a, pn := b.pn + n.ps.length + (csum k n.ks).b } _ r y n rfl hd (by rw [ho])), putN_kid _ _ y r _ _ ho]
      show (BD.mk (r ++ [addKid y n]) b.dn b.rt (b.ns + 1 + (csum k n.ks).a) (b.pn + n.ps.length + (csum k n.ks).b), 0) = _
      congr 2 <;> omega
theorem run_kids : ∀ (k : Nat) (ks : List ND) (b : BD) (r : List ND) (x : ND), b.dn = false → b.op = r ++ [x] → (∀ y ∈ ks, dpR k y = true) → r.length + 1 + k ≤ 8 → b.ns + (csum k ks).a ≤ 64 → b.pn + (csum k ks).b ≤ 256 →
    runB b (ks.flatMap (tokR k)) = ({ b with op := r ++ [.mk x.nm x.ps (x.ks ++ ks)], ns := b.ns + (csum k ks).a, pn := b.pn + (csum k ks).b }, 0)
  | k, [], b, r, x, _, ho, _, _, _, _ => by
    have e : (ND.mk x.nm x.ps (x.ks ++ [])) = x := by rw [List.append_nil]; exact x.eta.symm
    show (b, 0) = _
    rw [e, ← ho]; rfl
  | k, y :: ks, b, r, x, hd, ho, hdk, hl, ha, hb => by
    have ha' : b.ns + ((countR k y).a + (csum k ks).a) ≤ 64 := ha
    have hb' : b.pn + ((countR k y).b + (csum k ks).b) ≤ 256 := hb
    have h1 := run_node k y b hd (hdk y (by simp)) (by rw [ho, List.length_append]; simp only [List.length_cons, List.length_nil]; omega) (by omega) (by omega)
    rw [putN_kid b y x r _ _ ho] at h1
    have h2 := run_kids k ks { b with op := r ++ [addKid x y], ns := b.ns + (countR k y).a, pn := b.pn + (countR k y).b } r (addKid x y) hd rfl (fun z hz => hdk z (by simp [hz])) hl (by show b.ns + (countR k y).a + (csum k ks).a ≤ 64; omega) (by show b.pn + (countR k y).b + (csum k ks).b ≤ 256; omega)
    rw [List.flatMap_cons, runB_ok h1, h2]
    congr 2
    · congr 3
      show (x.ks ++ [y]) ++ ks = x.ks ++ y :: ks
      simp
    · show b.ns + (countR k y).a + (csum k ks).a = b.ns + ((countR k y).a + (csum k ks).a); omega
    · show b.pn + (countR k y).b + (csum k ks).b = b.pn + ((countR k y).b + (csum k ks).b); omega
end
/-- A tree that fits is that of its tokens. -/
theorem of_tokens (n : ND) (h : fitsR n = true) : ofR (tokR 8 n) = (n, 0) := by
  obtain ⟨h1, h2, h3⟩ := of_decide_eq_true h
  have hdp := dp_of_count 8 n h3
  have hs := count_stable 8 n hdp
  rw [hs] at h1 h2
  have hr := run_node 8 n bd0 rfl hdp (by decide) (by show 0 + _ ≤ 64; omega) (by show 0 + _ ≤ 256; omega)
  unfold ofR
  rw [hr, putN_root _ _ _ _ rfl]
  rfl

/-- Beyond its depth a tree has the same tokens, and the same counts. -/
theorem dp_mono : ∀ (j k : Nat) (n : ND), dpR j n = true → j ≤ k → dpR k n = true
  | 0, _, _, h, _ => by cases h
  | j + 1, 0, _, _, h => absurd h (by omega)
  | j + 1, k + 1, n, h, hjk => by
    show n.ks.all (dpR k) = true
    rw [List.all_eq_true]
    exact fun x hx => dp_mono j k x (List.all_eq_true.1 h x hx) (by omega)
theorem flatMap_same {α β : Type} {f g : α → List β} : ∀ {l : List α}, (∀ x ∈ l, f x = g x) → l.flatMap f = l.flatMap g
  | [], _ => rfl
  | x :: l, h => by rw [List.flatMap_cons, List.flatMap_cons, h x (by simp), flatMap_same (fun y hy => h y (by simp [hy]))]
theorem tok_stable : ∀ (j k : Nat) (n : ND), dpR j n = true → j ≤ k → tokR k n = tokR j n
  | 0, _, _, h, _ => by cases h
  | j + 1, 0, _, _, h => absurd h (by omega)
  | j + 1, k + 1, n, h, hjk => by
    show (⟨1, n.nm, ByteArray.empty⟩ :: n.ps.map tokP) ++ n.ks.flatMap (tokR k) ++ [⟨2, ByteArray.empty, ByteArray.empty⟩] = (⟨1, n.nm, ByteArray.empty⟩ :: n.ps.map tokP) ++ n.ks.flatMap (tokR j) ++ [⟨2, ByteArray.empty, ByteArray.empty⟩]
    rw [flatMap_same (fun x hx => tok_stable j k x (List.all_eq_true.1 h x hx) (by omega))]
theorem count_same : ∀ (d j : Nat) (n : ND), dpR j n = true → countR (j + d) n = countR j n
  | 0, _, _, _ => rfl
  | d + 1, j, n, h => by
    rw [show j + (d + 1) = j + d + 1 by omega, count_stable (j + d) n (dp_mono j _ n h (by omega)), count_same d j n h]
theorem csum_same (j k : Nat) (hjk : j ≤ k) : ∀ (l : List ND), (∀ x ∈ l, dpR j x = true) → csum k l = csum j l
  | [], _ => rfl
  | x :: l, h => by
    have e := count_same (k - j) j x (h x (by simp))
    rw [show j + (k - j) = k by omega] at e
    show ctAdd (countR k x) (csum k l) = ctAdd (countR j x) (csum j l)
    rw [e, csum_same j k hjk l (fun y hy => h y (by simp [hy]))]
theorem cnt_depth : ∀ (k : Nat) (n : ND), (countR k n).c ≤ k
  | 0, _ => Nat.le_refl _
  | k + 1, n => by
    have h : ∀ l : List ND, (csum k l).c ≤ k := by
      intro l
      induction l with
      | nil => exact Nat.zero_le _
      | cons x l ih =>
        have := cnt_depth k x
        show max (countR k x).c (csum k l).c ≤ k
        omega
    have := h n.ks
    rw [countR_succ]
    show (csum k n.ks).c + 1 ≤ k + 1
    omega
theorem csum_snoc (k : Nat) : ∀ (l : List ND) (x : ND), (csum k (l ++ [x])).a = (csum k l).a + (countR k x).a ∧ (csum k (l ++ [x])).b = (csum k l).b + (countR k x).b
  | [], x => by
    show (countR k x).a + 0 = 0 + (countR k x).a ∧ (countR k x).b + 0 = 0 + (countR k x).b
    omega
  | y :: l, x => by
    obtain ⟨h1, h2⟩ := csum_snoc k l x
    show (countR k y).a + (csum k (l ++ [x])).a = (countR k y).a + (csum k l).a + (countR k x).a ∧ (countR k y).b + (csum k (l ++ [x])).b = (countR k y).b + (csum k l).b + (countR k x).b
    omega
/-- The tokens of a node that is still open. -/
def opT (n : ND) : List TK := (⟨1, n.nm, ByteArray.empty⟩ :: n.ps.map tokP) ++ n.ks.flatMap (tokR 8)
/-- How many nodes and properties the open nodes have. -/
def opA (l : List ND) : Nat := (l.map fun n => 1 + (csum 8 n.ks).a).sum
def opB (l : List ND) : Nat := (l.map fun n => n.ps.length + (csum 8 n.ks).b).sum
theorem opA_snoc (l : List ND) (x : ND) : opA (l ++ [x]) = opA l + (1 + (csum 8 x.ks).a) := by simp [opA]
theorem opB_snoc (l : List ND) (x : ND) : opB (l ++ [x]) = opB l + (x.ps.length + (csum 8 x.ks).b) := by simp [opB]
/-- Open nodes have kids that are not too deep. -/
def opD : Nat → List ND → Prop
  | _, [] => True
  | i, x :: r => (∀ y ∈ x.ks, dpR (7 - i) y = true) ∧ opD (i + 1) r
theorem opD_snoc : ∀ (l : List ND) (i : Nat) (x : ND), opD i (l ++ [x]) ↔ opD i l ∧ ∀ y ∈ x.ks, dpR (7 - (i + l.length)) y = true
  | [], i, x => by simp [opD]
  | z :: l, i, x => by
    show (_ ∧ opD (i + 1) (l ++ [x])) ↔ (_ ∧ opD (i + 1) l) ∧ _
    rw [opD_snoc l (i + 1) x, List.length_cons, show i + 1 + l.length = i + (l.length + 1) by omega, and_assoc]
theorem node_done {j : Nat} (x : ND) (hj : j ≤ 7) (h : ∀ y ∈ x.ks, dpR j y = true) : tokR 8 x = opT x ++ [⟨2, ByteArray.empty, ByteArray.empty⟩] ∧ (countR 8 x).a = 1 + (csum 8 x.ks).a ∧ (countR 8 x).b = x.ps.length + (csum 8 x.ks).b ∧ dpR (j + 1) x = true := by
  have e1 : csum 7 x.ks = csum 8 x.ks := by rw [csum_same j 7 hj x.ks h, csum_same j 8 (by omega) x.ks h]
  refine ⟨?_, ?_, ?_, List.all_eq_true.2 h⟩
  · show (⟨1, x.nm, ByteArray.empty⟩ :: x.ps.map tokP) ++ x.ks.flatMap (tokR 7) ++ _ = _
    rw [flatMap_same (fun y hy => (tok_stable j 7 y (h y hy) hj).trans (tok_stable j 8 y (h y hy) (by omega)).symm)]
    rfl
  · rw [countR_succ, e1]
  · rw [countR_succ, e1]
/-- What is known of a tree that is being made of the tokens L. -/
def Inv (b : BD) (L : List TK) : Prop :=
  (b.dn = false ∧ L = b.op.flatMap opT ∧ opD 0 b.op ∧ b.op.length ≤ 8 ∧ b.ns = opA b.op ∧ b.pn = opB b.op ∧ b.ns ≤ 64 ∧ b.pn ≤ 256) ∨
  (b.dn = true ∧ b.op = [] ∧ L = tokR 8 b.rt ∧ dpR 8 b.rt = true ∧ (countR 8 b.rt).a = b.ns ∧ (countR 8 b.rt).b = b.pn ∧ b.ns ≤ 64 ∧ b.pn ≤ 256)
theorem take_inv {b b' : BD} {t : TK} {L : List TK} (h : takeR b t = (b', 0)) (hi : Inv b L) : Inv b' (L ++ if t.kd = 4 then [] else [bare t]) := by
  unfold takeR at h
  by_cases k4 : t.kd = 4
  · rw [if_pos k4] at h
    rw [if_pos k4, List.append_nil]
    cases h
    exact hi
  · rw [if_neg k4] at h
    rw [if_neg k4]
    by_cases kx : t.kd < 1 ∨ 3 < t.kd ∨ b.dn = true ∨ (t.kd ≠ 1 ∧ b.op = [])
    · rw [if_pos kx] at h; cases h
    · rw [if_neg kx] at h
      have hd : b.dn = false := by cases e : b.dn with
        | false => rfl
        | true => exact absurd (.inr (.inr (.inl e))) kx
      rcases hi with ⟨_, hL, hD, h8, hA, hB, hA64, hB256⟩ | ⟨hd', _⟩
      · by_cases k1 : t.kd = 1
        · rw [if_pos k1] at h
          have hb : bare t = ⟨1, t.nm, ByteArray.empty⟩ := by unfold bare; rw [if_pos k1, k1]
          split at h
          · cases h
          · split at h
            · cases h
            · cases h
              refine .inl ⟨hd, ?_, ?_, ?_, ?_, ?_, ?_, hB256⟩
              · show _ = (b.op ++ [ND.mk t.nm [] []]).flatMap opT
                rw [List.flatMap_append, ← hL, hb]; rfl
              · exact (opD_snoc b.op 0 _).2 ⟨hD, fun y hy => by cases hy⟩
              · show (b.op ++ [_]).length ≤ 8
                rw [List.length_append]; simp only [List.length_cons, List.length_nil]; omega
              · show b.ns + 1 = opA (b.op ++ [ND.mk t.nm [] []])
                rw [opA_snoc, hA]; rfl
              · show b.pn = opB (b.op ++ [ND.mk t.nm [] []])
                rw [opB_snoc, hB]; rfl
              · show b.ns + 1 ≤ 64; omega
        · rw [if_neg k1] at h
          have hne : b.op ≠ [] := fun e => kx (.inr (.inr (.inr ⟨k1, e⟩)))
          rcases List.eq_nil_or_concat b.op with ho | ⟨r, x, ho⟩
          · exact absurd ho hne
          · rw [List.concat_eq_append] at ho
            rw [ho, List.flatMap_append] at hL
            rw [ho] at hD h8 hA hB h
            rw [opA_snoc] at hA
            rw [opB_snoc] at hB
            obtain ⟨hD1, hD2⟩ := (opD_snoc r 0 x).1 hD
            rw [Nat.zero_add] at hD2
            rw [List.length_append] at h8
            simp only [List.length_cons, List.length_nil] at h8
            rw [getLastD_snoc] at h
            by_cases k3 : t.kd = 3
            · rw [if_pos k3] at h
              have hb : bare t = tokP ⟨t.nm, t.vl⟩ := by unfold bare tokP; rw [if_neg k1, if_pos k3]; cases t; simp only at k3; rw [k3]
              split at h
              · cases h
              · rename_i hks
                have hks' : x.ks = [] := Decidable.not_not.1 hks
                split at h
                · cases h
                · rename_i hp
                  rw [onLast_snoc] at h
                  cases h
                  refine .inl ⟨hd, ?_, ?_, ?_, ?_, ?_, hA64, ?_⟩
                  · show _ = (r ++ [addProp x ⟨t.nm, t.vl⟩]).flatMap opT
                    have e : opT (addProp x ⟨t.nm, t.vl⟩) = opT x ++ [tokP ⟨t.nm, t.vl⟩] := by
                      show (⟨1, x.nm, ByteArray.empty⟩ :: (x.ps ++ [(⟨t.nm, t.vl⟩ : PR)]).map tokP) ++ x.ks.flatMap (tokR 8) = (⟨1, x.nm, ByteArray.empty⟩ :: x.ps.map tokP) ++ x.ks.flatMap (tokR 8) ++ _
                      rw [hks']; simp
                    rw [List.flatMap_append, hL, hb, List.append_assoc]
                    congr 1
                    show (opT x ++ []) ++ _ = opT (addProp x _) ++ []
                    rw [e]; simp
                  · exact (opD_snoc r 0 _).2 ⟨hD1, by rw [Nat.zero_add]; exact hD2⟩
                  · show (r ++ [_]).length ≤ 8
                    rw [List.length_append]; exact h8
                  · show b.ns = opA (r ++ [addProp x _])
                    rw [opA_snoc, hA]; rfl
                  · show b.pn + 1 = opB (r ++ [addProp x ⟨t.nm, t.vl⟩])
                    rw [opB_snoc, hB]
                    show _ = opB r + ((x.ps ++ [_]).length + (csum 8 x.ks).b)
                    rw [List.length_append]; simp only [List.length_cons, List.length_nil]; omega
                  · show b.pn + 1 ≤ 256; omega
            · rw [if_neg k3] at h
              have hb : bare t = ⟨2, ByteArray.empty, ByteArray.empty⟩ := by
                have k2 : t.kd = 2 := by omega
                unfold bare; rw [if_neg k1, if_neg k3, k2]
              have hdone := node_done (j := 7 - r.length) x (by omega) hD2
              obtain ⟨d1, d2, d3, d4⟩ := hdone
              rcases List.eq_nil_or_concat r with hr | ⟨q, y, hr⟩
              · subst hr
                replace h : ((BD.mk [] true x b.ns b.pn), 0) = (b', 0) := h
                cases h
                refine .inr ⟨rfl, rfl, ?_, ?_, ?_, ?_, hA64, hB256⟩
                · show _ = tokR 8 x
                  rw [d1, hL, hb]
                  show ([] ++ (opT x ++ [])) ++ _ = _
                  simp
                · exact d4
                · show (countR 8 x).a = b.ns
                  rw [d2, hA]; show _ = 0 + _; omega
                · show (countR 8 x).b = b.pn
                  rw [d3, hB]; show _ = 0 + _; omega
              · rw [List.concat_eq_append] at hr
                subst hr
                rw [if_neg (by simp), List.dropLast_concat, onLast_snoc] at h
                cases h
                obtain ⟨hD3, hD4⟩ := (opD_snoc q 0 y).1 hD1
                rw [Nat.zero_add] at hD4
                rw [List.length_append] at h8 d4
                simp only [List.length_cons, List.length_nil] at h8 d4
                rw [opA_snoc] at hA
                rw [opB_snoc] at hB
                obtain ⟨c1, c2⟩ := csum_snoc 8 y.ks x
                refine .inl ⟨hd, ?_, ?_, ?_, ?_, ?_, hA64, hB256⟩
                · show _ = (q ++ [addKid y x]).flatMap opT
                  have e : opT (addKid y x) = opT y ++ tokR 8 x := by
                    show (⟨1, y.nm, ByteArray.empty⟩ :: y.ps.map tokP) ++ (y.ks ++ [x]).flatMap (tokR 8) = _
                    rw [List.flatMap_append]
                    show _ ++ (_ ++ (tokR 8 x ++ [])) = _
                    simp [opT]
                  rw [List.flatMap_append, hL, List.flatMap_append, hb]
                  show _ = _ ++ (opT (addKid y x) ++ [])
                  rw [e, d1]
                  simp
                · refine (opD_snoc q 0 _).2 ⟨hD3, ?_⟩
                  rw [Nat.zero_add]
                  intro z hz
                  rcases List.mem_append.1 (show z ∈ y.ks ++ [x] from hz) with hz | hz
                  · exact hD4 z hz
                  · rw [List.mem_singleton] at hz
                    subst hz
                    rw [show 7 - q.length = 7 - (q.length + 1) + 1 by omega]; exact d4
                · show (q ++ [_]).length ≤ 8
                  rw [List.length_append]; simp only [List.length_cons, List.length_nil]; omega
                · show b.ns = opA (q ++ [addKid y x])
                  rw [opA_snoc, hA]
                  show _ = opA q + (1 + (csum 8 (y.ks ++ [x])).a)
                  rw [c1, d2]; omega
                · show b.pn = opB (q ++ [addKid y x])
                  rw [opB_snoc, hB]
                  show _ = opB q + (y.ps.length + (csum 8 (y.ks ++ [x])).b)
                  rw [c2, d3]; omega
      · rw [hd] at hd'; cases hd'
/-- The tokens that say something, without what their kind has not. -/
def sayR (l : List TK) : List TK := l.flatMap fun t => if t.kd = 4 then [] else [bare t]
theorem run_inv : ∀ (l : List TK) (b b' : BD) (L : List TK), runB b l = (b', 0) → Inv b L → Inv b' (L ++ sayR l)
  | [], b, b', L, h, hi => by cases h; rw [show sayR [] = [] from rfl, List.append_nil]; exact hi
  | t :: l, b, b', L, h, hi => by
    have h' : (match takeR b t with
      | (b1, 0) => runB b1 l
      | (b1, e + 1) => (b1, e + 1)) = (b', 0) := h
    rcases ht : takeR b t with ⟨b1, e⟩
    rw [ht] at h'
    cases e with
    | zero =>
      have := run_inv l b1 b' _ h' (take_inv ht hi)
      rw [List.append_assoc] at this
      exact this
    | succ e => cases h'
/-- The tokens of a tree are those that it was made of; and it fits. -/
theorem tokens_of {l : List TK} {n : ND} (h : ofR l = (n, 0)) : tokR 8 n = sayR l ∧ fitsR n = true := by
  unfold ofR at h
  rcases hr : runB bd0 l with ⟨b, e⟩
  rw [hr] at h
  cases e with
  | succ e => cases h
  | zero =>
    simp only at h
    have hi := run_inv l bd0 b [] hr (.inl ⟨rfl, rfl, trivial, by decide, rfl, rfl, by decide, by decide⟩)
    rw [List.nil_append] at hi
    split at h
    · rename_i hd
      cases h
      rcases hi with ⟨hd', _⟩ | ⟨_, _, hL, hdp, ha, hb, ha64, hb256⟩
      · rw [hd] at hd'; cases hd'
      · refine ⟨hL.symm, ?_⟩
        have h9 := count_stable 8 b.rt hdp
        have hc := cnt_depth 8 b.rt
        unfold fitsR
        rw [h9]
        exact decide_eq_true ⟨by omega, by omega, hc⟩
    · cases h
end Go.Proofs.Ytmgfnghegcfhnaa
