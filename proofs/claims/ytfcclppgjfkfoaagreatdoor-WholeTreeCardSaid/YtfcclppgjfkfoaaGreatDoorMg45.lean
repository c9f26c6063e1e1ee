/- What Read of package token returns. Conditions: strings of at most 2^40 bytes. -/
import Derived.Test.YtfcclppgjfkfoaaGreatDoorMg44
import Derived.Test.YtfcclppgjfkfoaaGreatDoorMg9
import Derived.Test.YtfcclppgjfkfoaaGreatDoorMg26
import Derived.Test.YtfcclppgjfkfoaaGreatDoorMg6
namespace Go.Proofs.YtfcclppgjfkfoaaGreatDoor
open Go.RowKit

/-- A new reader. -/
def rdC (s t : ByteArray) : Array Value := #[.string s, .string t, .int .i64 0, .string ByteArray.empty, .string ByteArray.empty, .int .i64 0, .int .i64 0]
theorem infoRd (s t : ByteArray) : (Tryz.prog.info? 135).map (·.size) = some (rdC s t).size := by show _ = some 7; kernel_rfl
theorem rdC_one (s t : ByteArray) : (rdC s t).all (·.oneCell') = true := by
  rw [Array.all_eq_true_iff_forall_mem]
  intro v hv
  simp [rdC] at hv
  rcases hv with rfl | rfl | rfl | rfl | rfl | rfl | rfl <;> rfl
theorem Rdr.range {w : World} {g : Nat} {s t : ByteArray} {kd : Int} {nm vl : ByteArray} {sz pl : Int} (h : Rdr w g s t kd nm vl sz pl) : w.rangeAt g 2 [.int .i64 kd, .string nm, .string vl] := by
  intro j v hj
  rw [Arr.cell h]
  match j, hj with
  | 0, hj => exact hj
  | 1, hj => exact hj
  | 2, hj => exact hj
theorem below_gr {B g : Nat} {w w' w'' : World} (h : Below B w w') (hg : w'.grownBy w'' (some g)) (hB : B ≤ g) (hz : B ≤ w'.heap.size) : Below B w w'' :=
  h.grown hg hz (fun k hk => by injection hk with hk; omega)

set_option maxHeartbeats 6400000 in
set_option maxRecDepth 100000 in
theorem read_any (s t : ByteArray) (w : World) (hs : s.size ≤ 1099511627776) (ht : t.size ≤ 1099511627776) :
    Calls Tryz.prog 40 #[.string s, .string t] w fun e w' => ∃ v, e = .returned (.tuple #[v, .int .i64 ((readR 1024 s.data.toList t.data.toList).2 : Int)]) ∧ Ret10 w' v (readR 1024 s.data.toList t.data.toList).1 ∧ Below w.heap.size w w' := by
  have HJ0 : Hid (readR 1024 s.data.toList t.data.toList = joinR [] (readR (1024 - ([] : List TK).length) (s.data.toList.drop 0) t.data.toList)) := by
    unfold Hid; rw [joinR_nil _ (readR_bad _ _ _)]; rfl
  have htm : t.size ≤ maxLen := by unfold maxLen; omega
  obtain ⟨R, hR⟩ : ∃ R, readR 1024 s.data.toList t.data.toList = R := ⟨_, rfl⟩
  rw [hR] at HJ0
  rw [hR]
  clear hR
  have HTA := Lib.hid (fun (g : Nat) (kd : Int) (nm vl : ByteArray) (sz pl : Int) (a : Nat) (W : World) (h : Rdr W g s t kd nm vl sz pl) (h2 : a ≤ s.size) => tok_any g s t kd nm vl sz pl a W h h2 hs htm)
  have HA0 : Hid (Arr (w.alloc (.cells (rdC ByteArray.empty ByteArray.empty) 135)) w.heap.size 135 (rdC ByteArray.empty ByteArray.empty)) := Arr.new w _ _
  have HA1 : Hid (Rdr ((w.alloc (.cells (rdC ByteArray.empty ByteArray.empty) 135)).setRow w.heap.size (rdC s t)) w.heap.size s t 0 ByteArray.empty ByteArray.empty 0 0) := HA0.out.row _
  have HB1 : Hid (Below w.heap.size w ((w.alloc (.cells (rdC ByteArray.empty ByteArray.empty) 135)).setRow w.heap.size (rdC s t))) := below_setRow ((Below.refl _ _).alloc (Nat.le_refl _) _) (Nat.le_refl _) _
  go_enter Tryz.func40, Tryz.ntmps40
  go_upto_region 2 with (first
    | (refine wpList_store_row rfl 135 (.tmp 6) (.tmp 13) rfl w.heap.size (rdC s t) rfl rfl _ _ HA0.out (infoRd _ _) rfl (rdC_one _ _) ?_))
  change Code.wp _ _ _ _ ((w.alloc (.cells (rdC ByteArray.empty ByteArray.empty) 135)).setRow w.heap.size (rdC s t))
  generalize (w.alloc (.cells (rdC ByteArray.empty ByteArray.empty) 135)).setRow w.heap.size (rdC s t) = w1 at *
  obtain ⟨g, hg⟩ : ∃ g, g = w.heap.size := ⟨_, rfl⟩
  rw [← hg] at HA1
  have hgB : w.heap.size ≤ g := by omega
  rw [← hg]
  clear HA0 hg
  go_wp2
  go_loopw [7, 8] (fun v av wr => ∃ (O : List TK) (a : Nat), av = .int .i64 (a : Int) ∧ a ≤ s.size ∧ O.length ≤ 1024 ∧ Hid (R = joinR O (readR (1024 - O.length) (s.data.toList.drop a) t.data.toList)) ∧ Got10 0 wr v O ∧ (∀ j, v.ownBlock = some j → w.heap.size ≤ j) ∧ (∃ kd nm vl sz pl, Rdr wr g s t kd nm vl sz pl) ∧ Below w.heap.size w wr) (fun _ av _ => s.size - (intOf av).toNat)
  case atStart => exact ⟨[], 0, rfl, Nat.zero_le _, Nat.zero_le _, HJ0, got_nil _ _, (fun _ hj => by cases hj), ⟨_, _, _, _, _, HA1.out⟩, HB1.out⟩
  case round =>
    clear HJ0 HA1 HB1
    obtain ⟨O, a, rfl, ha, hO, HJ, hown, hbl, ⟨kd, nm, vl, sz, pl, hRd⟩, hb⟩ := hrel
    obtain ⟨A, cap, rfl, _⟩ := row_rdTk hown
    have HB := Lib.hid hb
    have HOWN := Lib.hid hown
    have HBL := Lib.hid hbl
    have hsz := hb.size
    have HNE := Lib.hid (ow_arr hRd hown (by decide))
    clear hb hown hbl
    by_cases hk : O.length = 1024
    · have HE : Hid (R = ([], 7)) := by unfold Hid; rw [HJ.out, hk]; rfl
      have d0 : decide ((O.length : Int) < 1024) = false := decide_eq_false (by omega)
      clear HJ hRd HNE
      go_wp2
      go_ret2
      exact ⟨_, by rw [HE.out]; rfl, by rw [HE.out]; exact (got_nil 0 _).ret, HB.out⟩
    · have hk2 : (O.length : Int) < 1024 := by omega
      have d0 : decide ((O.length : Int) < 1024) = true := decide_eq_true hk2
      obtain ⟨m, hm⟩ : ∃ m, 1024 - O.length = m + 1 := ⟨1023 - O.length, by omega⟩
      have hm2 : m = 1024 - (O.length + 1) := by omega
      rw [hm] at HJ
      have HT := Lib.hid (HTA.out g kd nm vl sz pl a wr hRd ha)
      have HER : Hid (∀ e, e ≠ 0 → stepR (s.data.toList.drop a) t.data.toList = .err e → R = ([], e)) := fun e he h => by
        rw [HJ.out, readR_err h]; unfold joinR; rw [if_neg he]
      have HST : Hid (a + 4 ≤ s.size → frombig (s.data.toList.drop a) = 9 → (a + 4 = s.size → R = (O, 0)) ∧ (a + 4 ≠ s.size → R = ([], 6))) := fun h4 h9 => by
        have hl : (s.data.toList.drop a).length = s.size - a := by rw [List.length_drop]; rfl
        have hst := step_9 (l := s.data.toList.drop a) (tx := t.data.toList) (by omega) h9
        have hnil : (s.data.toList.drop a).drop 4 = [] ↔ a + 4 = s.size := by
          rw [List.drop_eq_nil_iff, hl]; omega
        refine ⟨fun h => ?_, fun h => ?_⟩
        · rw [HJ.out, readR_stop (hst.1 (hnil.2 h))]; unfold joinR; rw [if_pos rfl, List.append_nil]
        · rw [HJ.out, readR_err (hst.2 (fun hh => h (hnil.1 hh)))]; unfold joinR; rw [if_neg (by decide)]
      have HTO : Hid (∀ tk n, stepR (s.data.toList.drop a) t.data.toList = .tok tk n → R = joinR (O ++ [tk]) (readR (1024 - (O ++ [tk]).length) (s.data.toList.drop (a + 4 + n)) t.data.toList)) := fun tk n h => by
        rw [HJ.out, joinR_tok O h, List.drop_drop, List.drop_drop, List.length_append, hm2, show a + (4 + n) = a + 4 + n by omega]
        rfl
      clear HJ hRd
      go_wp2_with fail
      refine HT.out.mono ?_
      rintro e w2 ⟨nx, er, rfl, hg2, tk, sz', pl', hR2, hti⟩
      have HG2 := Lib.hid hg2
      have HR2 := Lib.hid hR2
      have HB2 := Lib.hid (below_gr HB.out hg2 hgB hsz)
      have hz2 := HB2.out.size
      have HOW2 : Hid (Got10 0 w2 (.slice A O.length cap) O) := World.ownsRow.kept HOWN.out hg2 (by
        cases hv : (Value.slice A O.length cap).ownBlock with
        | none => exact .inl rfl
        | some j => exact .inr (fun e => HNE.out (by rw [hv, e])))
      clear hg2 hR2 HT HTA HOWN HB
      rcases hti with ⟨he, hse⟩ | ⟨rfl, h9, ha4, hf9, rfl⟩ | ⟨rfl, h9, n, htok, rfl, han⟩
      · have HE := Lib.hid (HER.out er he hse)
        have d1 : ((er : Int) != 0) = true := by simp; omega
        clear HER HST HTO hse
        go_wp2
        go_ret2
        exact ⟨_, by rw [HE.out]; rfl, by rw [HE.out]; exact (got_nil 0 _).ret, HB2.out⟩
      · have k2 : w2.cell? ⟨g, 2, none⟩ = some (.int .i64 9) := by rw [Arr.cell HR2.out, ← h9]; rfl
        obtain ⟨q1, q2⟩ := HST.out ha4 hf9
        by_cases hse : a + 4 = s.size
        · have HE := Lib.hid (q1 hse)
          have d1 : (((a + 4 : Nat) : Int) != (s.size : Int)) = false := by simp; omega
          clear HER HST HTO q1 q2 h9
          go_wp2
          go_ret2
          exact ⟨_, by rw [HE.out]; rfl, by rw [HE.out]; exact HOW2.out.ret, HB2.out⟩
        · have HE := Lib.hid (q2 hse)
          have d1 : (((a + 4 : Nat) : Int) != (s.size : Int)) = true := by simp; omega
          clear HER HST HTO q1 q2 h9
          go_wp2
          go_ret2
          exact ⟨_, by rw [HE.out]; rfl, by rw [HE.out]; exact (got_nil 0 _).ret, HB2.out⟩
      · obtain ⟨pk, pn, pv⟩ := tk
        simp only at h9
        have HT := Lib.hid (HTO.out _ _ htok)
        have k2 : w2.cell? ⟨g, 2, none⟩ = some (.int .i64 pk) := Arr.cell HR2.out 2
        have d1 : (pk != 9) = true := by simpa using h9
        have HRG := Lib.hid HR2.out.range
        clear HER HST HTO htok h9
        go_wp2_with (first
          | (refine wpList_load_mid rfl 116 (.tmp 36) rfl g 2 rfl [.int .i64 pk, .string pn, .string pv] _ HRG.out Tryz.underlying116 rfl (infoTk ⟨pk, pn, pv⟩) ?_)
          | (at_builtin; refine append_tk rfl (.tmp 35) (.tmp 38) rfl ⟨pk, pn, pv⟩ (.slice A O.length cap) O rfl HOW2.out w2.heap.size rfl rfl (by omega) ?_; intro v3 w3 ho3 hm3; have HO3 := Lib.hid ho3; have HM3 := Lib.hid hm3; clear ho3 hm3))
        have HB3 := Lib.hid (HB2.out.trans (HM3.out.below HBL.out hz2))
        have HR3 : Hid (Rdr w3 g s t pk pn pv sz' pl') := HM3.out.arr HR2.out (fun h => HNE.out h.symm)
        go_roundw
        case rel => exact ⟨O ++ [⟨pk, pn, pv⟩], a + 4 + n, by go_num, han, by rw [List.length_append]; simp only [List.length_cons, List.length_nil]; omega, HT, (show Got10 0 w3 v3 (O ++ [⟨pk, pn, pv⟩]) from HO3.out), (fun j hj => by
          rcases HM3.out.foot j hj with h5 | h5
          · exact HBL.out j h5
          · exact Nat.le_trans hz2 h5), ⟨_, _, _, _, _, HR3.out⟩, HB3.out⟩
        case measure => simp only [intOf]; omega
end Go.Proofs.YtfcclppgjfkfoaaGreatDoor

/- A reader of a tree's tokens, one after the other, in plain words: what it does is what the document's Builder does. No condition: nothing of the program stands in it. -/
namespace Go.Proofs.YtfcclppgjfkfoaaGreatDoor

/-- What is told at the end. -/
def finB : BD × Nat → ND × Nat
  | (_, e + 1) => (nd0, e + 1)
  | (b, 0) => if b.dn = true then (b.rt, 0) else (nd0, 6)
theorem ofR_fin (l : List TK) : ofR l = finB (runB bd0 l) := by
  unfold ofR finB
  rcases runB bd0 l with ⟨b, _ | e⟩ <;> rfl
/-- The next token that says something, and what is behind it. -/
def nextR : List TK → Option (TK × List TK)
  | [] => none
  | t :: l => if t.kd = 4 then nextR l else some (t, l)
/-- The token that stands for none. -/
def tkN : TK := ⟨0, ⟨#[]⟩, ⟨#[]⟩⟩
/-- What next returns: a token, whether there is one, the tokens behind it. -/
def NextP (m : List TK) (t : TK) (b : Bool) (l : List TK) : Prop := (b = true ∧ nextR m = some (t, l)) ∨ (b = false ∧ t = tkN ∧ l = [] ∧ nextR m = none)
theorem take_nop (b : BD) {t : TK} (h : t.kd = 4) : takeR b t = (b, 0) := if_pos h
theorem runB_nop (b : BD) {t : TK} (l : List TK) (h : t.kd = 4) : runB b (t :: l) = runB b l := runB_cons (take_nop b h)
theorem run_next (b : BD) : ∀ {m : List TK} {t : TK} {l : List TK}, nextR m = some (t, l) → runB b m = runB b (t :: l) ∧ t.kd ≠ 4 ∧ l.length < m.length
  | [], _, _, h => by cases h
  | x :: m, t, l, h => by
    unfold nextR at h
    by_cases hx : x.kd = 4
    · rw [if_pos hx] at h
      obtain ⟨h1, h2, h3⟩ := run_next b h
      exact ⟨by rw [runB_nop b m hx, h1], h2, by rw [List.length_cons]; omega⟩
    · rw [if_neg hx] at h
      injection h with h
      injection h with h1 h2
      subst h1 h2
      exact ⟨rfl, hx, Nat.lt_succ_self _⟩
theorem run_none (b : BD) : ∀ {m : List TK}, nextR m = none → runB b m = (b, 0)
  | [], _ => rfl
  | x :: m, h => by
    unfold nextR at h
    by_cases hx : x.kd = 4
    · rw [if_pos hx] at h
      rw [runB_nop b m hx]; exact run_none b h
    · rw [if_neg hx] at h; cases h
/-- A token, or the end, is what it is for the Builder, too. -/
theorem fin_next {b : BD} (hb : b.dn = false) {m : List TK} {t : TK} {f : Bool} {l : List TK} (h : NextP m t f l) : finB (runB b m) = finB (runB b (t :: l)) := by
  rcases h with ⟨_, h⟩ | ⟨_, rfl, rfl, h⟩
  · rw [(run_next b h).1]
  · rw [run_none b h]
    have e : takeR b tkN = (b, 6) := by
      unfold takeR
      rw [if_neg (by decide), if_pos (.inl (by decide))]
    show finB (b, 0) = finB (match takeR b tkN with
      | (b', 0) => runB b' []
      | (b', e + 1) => (b', e + 1))
    rw [e]
    show (if b.dn = true then (b.rt, 0) else (nd0, 6)) = (nd0, 6)
    rw [hb, if_neg (by decide)]
theorem next_len {m : List TK} {t : TK} {f : Bool} {l : List TK} (h : NextP m t f l) : l.length ≤ m.length ∧ (f = true → l.length < m.length) ∧ (f = false → t.kd = 0) ∧ t.kd ≠ 4 := by
  rcases h with ⟨rfl, h⟩ | ⟨rfl, rfl, rfl, _⟩
  · have := run_next bd0 h
    exact ⟨by omega, (fun _ => this.2.2), (fun h => by cases h), this.2.1⟩
  · exact ⟨Nat.zero_le _, (fun h => by cases h), (fun _ => rfl), by decide⟩
theorem fin_err {b b' : BD} {t : TK} {l : List TK} {e : Nat} (h : takeR b t = (b', e + 1)) : finB (runB b (t :: l)) = (nd0, e + 1) := by
  show finB (match takeR b t with
    | (b', 0) => runB b' l
    | (b', e + 1) => (b', e + 1)) = _
  rw [h]; rfl
theorem fin_ok {b b' : BD} {t : TK} {l : List TK} (h : takeR b t = (b', 0)) : finB (runB b (t :: l)) = finB (runB b' l) := by rw [runB_cons h]
/-- A Builder with open nodes. -/
def stB (op : List ND) (ns pn : Nat) : BD := ⟨op, false, nd0, ns, pn⟩
/-- The last open node has ended. -/
def popB (op : List ND) (n : ND) (ns pn : Nat) : BD := if op = [] then ⟨[], true, n, ns, pn⟩ else stB (onLast (fun y => addKid y n) op) ns pn
theorem take_end (op : List ND) (n : ND) (ns pn : Nat) (t : TK) (ht : t.kd = 2) : takeR (stB (op ++ [n]) ns pn) t = (popB op n ns pn, 0) := by
  have hne : op ++ [n] ≠ [] := by simp
  unfold takeR popB stB
  simp only
  rw [if_neg (by rw [ht]; decide), if_neg (by rw [ht]; simp), if_neg (by rw [ht]; decide), if_neg (by rw [ht]; decide)]
  by_cases ho : op = []
  · subst ho; simp
  · have h1 : ¬ (op ++ [n]).length = 1 := by
      rw [List.length_append]
      have : op.length ≠ 0 := fun h => ho (List.length_eq_zero_iff.1 h)
      simp only [List.length_cons, List.length_nil]; omega
    rw [if_neg h1, if_neg ho, List.dropLast_concat, getLastD_snoc]
theorem pop_kid (op : List ND) (y n : ND) (ns pn : Nat) : popB (op ++ [y]) n ns pn = stB (op ++ [addKid y n]) ns pn := by
  unfold popB
  rw [if_neg (by simp), onLast_snoc]
theorem take_deep (op : List ND) (ns pn : Nat) (t : TK) (ht : t.kd = 1) (ho : op.length = 8) : takeR (stB op ns pn) t = (stB op ns pn, 13) := by
  unfold takeR stB
  simp only
  rw [if_neg (by rw [ht]; decide), if_neg (by rw [ht]; simp), if_pos ht, if_pos ho]
theorem take_many (op : List ND) (ns pn : Nat) (t : TK) (ht : t.kd = 1) (ho : op.length ≠ 8) (hn : ns = 64) : takeR (stB op ns pn) t = (stB op ns pn, 7) := by
  unfold takeR stB
  simp only
  rw [if_neg (by rw [ht]; decide), if_neg (by rw [ht]; simp), if_pos ht, if_neg ho, if_pos hn]
theorem take_open (op : List ND) (ns pn : Nat) (t : TK) (ht : t.kd = 1) (ho : op.length ≠ 8) (hn : ns ≠ 64) : takeR (stB op ns pn) t = (stB (op ++ [.mk t.nm [] []]) (ns + 1) pn, 0) := by
  unfold takeR stB
  simp only
  rw [if_neg (by rw [ht]; decide), if_neg (by rw [ht]; simp), if_pos ht, if_neg ho, if_neg hn]
theorem take_form (op : List ND) (x : ND) (ns pn : Nat) (t : TK) (h1 : t.kd ≠ 1) (h2 : t.kd ≠ 2) (h3 : t.kd ≠ 3) (h4 : t.kd ≠ 4) : takeR (stB (op ++ [x]) ns pn) t = (stB (op ++ [x]) ns pn, 6) := by
  unfold takeR
  rw [if_neg h4, if_pos]
  by_cases h : t.kd < 1
  · exact .inl h
  · exact .inr (.inl (by omega))
theorem take_late (op : List ND) (x : ND) (ns pn : Nat) (t : TK) (h3 : t.kd = 3) (hk : x.ks ≠ []) : takeR (stB (op ++ [x]) ns pn) t = (stB (op ++ [x]) ns pn, 6) := by
  unfold takeR stB
  simp only
  rw [if_neg (by rw [h3]; decide), if_neg (by rw [h3]; simp), if_neg (by rw [h3]; decide), if_pos h3, getLastD_snoc, if_pos hk]
theorem take_full (op : List ND) (x : ND) (ns pn : Nat) (t : TK) (h3 : t.kd = 3) (hk : x.ks = []) (hp : pn = 256) : takeR (stB (op ++ [x]) ns pn) t = (stB (op ++ [x]) ns pn, 7) := by
  unfold takeR stB
  simp only
  rw [if_neg (by rw [h3]; decide), if_neg (by rw [h3]; simp), if_neg (by rw [h3]; decide), if_pos h3, getLastD_snoc, if_neg (by rw [hk]; simp), if_pos hp]
theorem take_more (op : List ND) (x : ND) (ns pn : Nat) (t : TK) (h3 : t.kd = 3) (hk : x.ks = []) (hp : pn ≠ 256) : takeR (stB (op ++ [x]) ns pn) t = (stB (op ++ [addProp x ⟨t.nm, t.vl⟩]) ns (pn + 1), 0) := by
  unfold takeR stB
  simp only
  rw [if_neg (by rw [h3]; decide), if_neg (by rw [h3]; simp), if_neg (by rw [h3]; decide), if_pos h3, getLastD_snoc, if_neg (by rw [hk]; simp), if_neg hp, onLast_snoc]
/-- The whole: what Of does with the first token, and behind the root's end. -/
theorem of_first {m : List TK} {t : TK} {f : Bool} {l : List TK} (h : NextP m t f l) (ht : t.kd ≠ 1) : ofR m = (nd0, 6) := by
  rw [ofR_fin, fin_next rfl h]
  have h4 := (next_len h).2.2.2
  have e : takeR bd0 t = (bd0, 6) := by
    unfold takeR
    rw [if_neg h4, if_pos]
    by_cases h : t.kd < 1 ∨ 3 < t.kd
    · exact h.imp id .inl
    · exact .inr (.inr (.inr ⟨ht, rfl⟩))
  exact fin_err e
theorem of_node {m : List TK} {t : TK} {f : Bool} {l : List TK} (h : NextP m t f l) : ofR m = finB (runB (stB [] 0 0) (t :: l)) := by rw [ofR_fin, fin_next rfl h]; rfl
theorem fin_root (n : ND) (ns pn : Nat) {m : List TK} {t : TK} {f : Bool} {l : List TK} (h : NextP m t f l) : finB (runB (popB [] n ns pn) m) = if f = true then (nd0, 6) else (n, 0) := by
  have ep : popB [] n ns pn = ⟨[], true, n, ns, pn⟩ := by unfold popB; rw [if_pos rfl]
  rw [ep]
  rcases h with ⟨rfl, h⟩ | ⟨rfl, rfl, rfl, h⟩
  · rw [(run_next _ h).1, if_pos rfl]
    have h4 := (run_next bd0 h).2.1
    have e : takeR ⟨[], true, n, ns, pn⟩ t = (⟨[], true, n, ns, pn⟩, 6) := by
      unfold takeR
      rw [if_neg h4, if_pos (.inr (.inr (.inl rfl)))]
    exact fin_err e
  · rw [run_none _ h, if_neg (by decide)]; rfl
end Go.Proofs.YtfcclppgjfkfoaaGreatDoor

/- What package tree's reader does at next. Conditions: a reader in memory, over tokens that stay. -/
namespace Go.Proofs.YtfcclppgjfkfoaaGreatDoor
open Go.RowKit

/-- A reader in memory, over tokens that were there in w0. -/
structure RdrT (w0 w : World) (r : Nat) (A : Option Addr) (cap : Nat) (l : List TK) (ns pn : Nat) : Prop where
  arr : Arr w r 139 #[.slice A l.length cap, .int .i64 (ns : Int), .int .i64 (pn : Int)]
  rd : RdTk w0 A l
  le : l.length ≤ cap
  mx : cap ≤ maxLen
  lo : w0.heap.size ≤ r
/-- How many tokens are not yet read. -/
def lenAt (w : World) (r : Nat) : Nat := match w.cell? ⟨r, 0, none⟩ with
  | some (.slice _ n _) => n
  | _ => 0
theorem RdrT.lenAt {w0 w : World} {r : Nat} {A : Option Addr} {cap : Nat} {l : List TK} {ns pn : Nat} (h : RdrT w0 w r A cap l ns pn) : lenAt w r = l.length := by
  have : w.cell? ⟨r, 0, none⟩ = some (.slice A l.length cap) := h.arr.cell 0
  unfold Go.Proofs.YtfcclppgjfkfoaaGreatDoor.lenAt; rw [this]
theorem rdTk_tail {w : World} {b off : Nat} {x : TK} {m : List TK} (h : RdTk w (some ⟨b, off, none⟩) (x :: m)) : TkAt w b off x ∧ RdTk w (some ⟨b, off + 3, none⟩) m := by
  rcases h with h | ⟨b', off', e, hc⟩
  · cases h
  · injection e with e
    injection e with e1 e2 _
    subst e1 e2
    refine ⟨by simpa using hc 0 (by simp), .inr ⟨b, off + 3, rfl, fun k hk => ?_⟩⟩
    have := hc (k + 1) (by simpa using hk)
    rw [show off + 3 + k * 3 = off + (k + 1) * 3 by omega]
    simpa using this
theorem rdTk_some {w : World} {A : Option Addr} {x : TK} {m : List TK} (h : RdTk w A (x :: m)) : ∃ b off, A = some ⟨b, off, none⟩ := by
  rcases h with h | ⟨b, off, e, _⟩
  · cases h
  · exact ⟨b, off, e⟩
theorem moved_new {w wr w' : World} {F : Nat → Prop} {g : Nat} (h : Moved w wr F F) (hg : w.heap.size ≤ g) (hm : Moved wr w' (fun k => k = g) (fun k => k = g)) : Moved w w' F F := by
  have h1 : Moved w wr F (fun k => F k ∨ k = g) := h.inside (fun _ h => h) (fun k hk => hk.elim .inl (fun e => .inr (.inr (by rw [e]; exact hg))))
  have h2 : Moved wr w' (fun k => F k ∨ k = g) (fun k => F k ∨ k = g) := hm.inside (fun _ hk => .inr hk) (fun _ hk => .inl hk)
  exact (h1.trans h2).inside (fun _ h => h) (fun _ hk => .inl hk)
def tkZ : Array Value := #[.int .i64 0, .string ⟨#[]⟩, .string ⟨#[]⟩]

/-- What next leaves. -/
def NextPost (w0 w : World) (r : Nat) (l : List TK) (ns pn : Nat) (e : Ending) (w' : World) : Prop := ∃ (t : TK) (f : Bool) (A' : Option Addr) (cap' : Nat) (l' : List TK), e = .returned (.tuple #[.agg #[.int .i64 t.kd, .string t.nm, .string t.vl], .bool f]) ∧ NextP l t f l' ∧ RdrT w0 w' r A' cap' l' ns pn ∧ Moved w w' (fun k => k = r) (fun k => k = r)

set_option maxHeartbeats 1600000 in
set_option maxRecDepth 100000 in
theorem next_any (w0 : World) (r : Nat) (A : Option Addr) (cap : Nat) (l : List TK) (ns pn : Nat) (w : World) (hR : RdrT w0 w r A cap l ns pn) (hb0 : Below w0.heap.size w0 w) :
    Calls Tryz.prog 79 #[.pointer (some ⟨r, 0, none⟩)] w fun e w' => NextPost w0 w r l ns pn e w' := by
  have hba : Below w.heap.size w (w.alloc (.cells tkZ 116)) := (Below.refl _ _).alloc (Nat.le_refl _) _
  have HA2 := Lib.hid (Arr.new w 116 tkZ)
  have HR2 : Hid (RdrT w0 (w.alloc (.cells tkZ 116)) r A cap l ns pn) := ⟨hR.arr.below hba hR.arr.lt, hR.rd, hR.le, hR.mx, hR.lo⟩
  have HM2 := Lib.hid (Moved.of_below hba (fun k => k = r))
  have HG : Hid (r < w.heap.size) := hR.arr.lt
  have HB0 := Lib.hid hb0
  clear hba hR hb0
  go_enter Tryz.func79, Tryz.ntmps79
  go_wp2
  go_loopw [] (fun wr => ∃ (A' : Option Addr) (cap' : Nat) (m : List TK), RdrT w0 wr r A' cap' m ns pn ∧ Hid (nextR m = nextR l) ∧ Arr wr w.heap.size 116 tkZ ∧ Moved w wr (fun k => k = r) (fun k => k = r)) (fun wr => lenAt wr r)
  case atStart => exact ⟨A, cap, l, HR2.out, rfl, HA2.out, HM2.out⟩
  case round =>
    clear HR2 HA2 HM2
    obtain ⟨A', cap', m, hR, HNX, hA2, hM⟩ := hrel
    have HR := Lib.hid hR
    have HA2 := Lib.hid hA2
    have HM := Lib.hid hM
    have c0 : wr.cell? ⟨r, 0, none⟩ = some (.slice A' m.length cap') := hR.arr.cell 0
    have hle := hR.le
    have hmx := hR.mx
    unfold maxLen at hmx
    have HLE := Lib.hid hR.lenAt
    cases m with
    | nil =>
      have HP : Hid (NextP l tkN false []) := .inr ⟨rfl, rfl, rfl, HNX.out.symm⟩
      clear hR hA2 hM
      go_wp2_with (refine wpList_store_row rfl 116 (.tmp 2) (.tmp 29) rfl w.heap.size tkZ rfl rfl _ _ HA2.out (infoTk tkN) rfl (tkC_one tkN) ?_)
      have HR' : Hid (RdrT w0 (wr.setRow w.heap.size tkZ) r A' cap' [] ns pn) := ⟨HR.out.arr.rowFar (Nat.ne_of_lt HG.out) _, HR.out.rd, HR.out.le, HR.out.mx, HR.out.lo⟩
      exact bodyPost_ret (results_rowN rfl _ _ w.heap.size _ tkZ _ _ rfl (HA2.out.row _) Tryz.underlying116 rfl (infoTk tkN)) rfl ⟨tkN, false, A', cap', [], rfl, HP.out, HR'.out, moved_new HM.out (Nat.le_refl _) (moved_setRow wr w.heap.size _)⟩
    | cons x m =>
      obtain ⟨b, off, rfl⟩ := rdTk_some hR.rd
      obtain ⟨⟨h1, h2, h3⟩, ht⟩ := rdTk_tail hR.rd
      have HT := Lib.hid ht
      have hbw : Below w0.heap.size w0 wr := HB0.out.trans (hM.below (fun k hk => by rw [hk]; exact HR.out.lo) HB0.out.size)
      have h1 := cellK_below h1 hbw
      have h2 := cellK_below h2 hbw
      have h3 := cellK_below h3 hbw
      rw [List.length_cons] at c0 hle HLE
      obtain ⟨kd, nm, vl⟩ := x
      simp only at h1 h2 h3
      have hb4 : Below wr.heap.size wr (wr.alloc (.cells #[.int .i64 kd, .string nm, .string vl] 116)) := (Below.refl _ _).alloc (Nat.le_refl _) _
      have HA4 := Lib.hid (Arr.new wr 116 #[.int .i64 kd, .string nm, .string vl])
      have hA4r := HR.out.arr.below hb4 HR.out.arr.lt
      rw [List.length_cons] at hA4r
      have HA2 := Lib.hid (HA2.out.below hb4 HA2.out.lt)
      have HM := Lib.hid (HM.out.trans (Moved.of_below hb4 _))
      have hr4 : r < wr.heap.size := HR.out.arr.lt
      have HG2 : Hid (w.heap.size < wr.heap.size) := hA2.lt
      clear hb4 hR hA2 hM ht hbw
      have l0 : (0 : Int) < (m.length : Int) + 1 := by omega
      go_upto_region 3 with fail
      generalize wr.alloc (.cells #[.int .i64 kd, .string nm, .string vl] 116) = W4 at *
      generalize wr.heap.size = g4 at *
      have c4 : W4.cell? ⟨r, 0, none⟩ = some (.slice (some ⟨b, off, none⟩) (m.length + 1) cap') := hA4r.cell 0
      have f4 := hA4r.frozen 0
      have HAR := Lib.hid hA4r
      clear c0 hA4r
      have l1 : (1 : Int) ≤ (m.length : Int) + 1 := by omega
      have l2 : (m.length : Int) + 1 ≤ cap' := by omega
      go_upto_region 4 with fail
      have HRD : Hid (RdTk w0 (if cap' = 1 then some (⟨b, off, none⟩ : Addr) else some ⟨b, off + 3, none⟩) m) := by
        by_cases h1 : cap' = 1
        · rw [if_pos h1]
          exact .inl (List.length_eq_zero_iff.1 (by omega))
        · rw [if_neg h1]; exact HT.out
      generalize (if cap' = 1 then some (⟨b, off, none⟩ : Addr) else some ⟨b, off + 3, none⟩) = A5 at *
      have HA5 : Hid (Arr (W4.setCell ⟨r, 0, none⟩ (.slice A5 m.length (cap' - 1))) r 139 #[.slice A5 m.length (cap' - 1), .int .i64 (ns : Int), .int .i64 (pn : Int)]) := HAR.out.put 0 _
      have HR5 : Hid (RdrT w0 (W4.setCell ⟨r, 0, none⟩ (.slice A5 m.length (cap' - 1))) r A5 (cap' - 1) m ns pn) := ⟨HA5.out, HRD.out, by omega, by unfold maxLen; omega, HR.out.lo⟩
      have hr2 : w.heap.size ≠ r := (Nat.ne_of_lt HG.out).symm
      have HA25 := Lib.hid (HA2.out.far hr2 (.slice A5 m.length (cap' - 1)) (j := 0))
      have HA45 := Lib.hid (HA4.out.far (show g4 ≠ r by omega) (.slice A5 m.length (cap' - 1)) (j := 0))
      have HM5 := Lib.hid (HM.out.trans (Moved.grown (gr_cell W4 r 0 (.slice A5 m.length (cap' - 1))) (fun k hk => by injection hk with hk; exact hk.symm) (fun k hk => .inl hk)))
      clear c4 f4 HAR HA2 HA4 HM HR HRD HT HA5
      generalize W4.setCell ⟨r, 0, none⟩ (.slice A5 m.length (cap' - 1)) = W5 at *
      have k0 := HA45.out.cell 0
      have k1 := HA45.out.cell 1
      have k2 := HA45.out.cell 2
      simp only [List.getElem?_toArray, List.getElem?_cons_zero, List.getElem?_cons_succ] at k0 k1 k2
      by_cases h4 : kd = 4
      · have d4 : (kd != 4) = false := by rw [h4]; rfl
        have HN5 : Hid (nextR m = nextR l) := by
          unfold Hid; rw [← HNX.out]; exact (if_pos h4).symm
        have HL5 : Hid (lenAt W5 r < lenAt wr r) := by
          unfold Hid; rw [HLE.out, HR5.out.lenAt]; exact Nat.lt_succ_self _
        clear h4 HNX HLE
        go_wp2
        go_roundw
        case rel => exact ⟨A5, cap' - 1, m, HR5.out, HN5.out, HA25.out, HM5.out⟩
        case measure => exact HL5.out
      · have d4 : (kd != 4) = true := by simpa using h4
        have HP : Hid (NextP l ⟨kd, nm, vl⟩ true m) := .inl ⟨rfl, by rw [← HNX.out]; exact if_neg h4⟩
        have HR' : Hid (RdrT w0 (W5.setRow w.heap.size (tkC ⟨kd, nm, vl⟩)) r A5 (cap' - 1) m ns pn) := ⟨HR5.out.arr.rowFar hr2.symm _, HR5.out.rd, HR5.out.le, HR5.out.mx, HR5.out.lo⟩
        clear h4 HNX HLE
        go_wp2_with (refine wpList_store_row rfl 116 (.tmp 2) (.tmp 28) rfl w.heap.size (tkC ⟨kd, nm, vl⟩) rfl rfl _ _ HA25.out (infoTk ⟨kd, nm, vl⟩) rfl (tkC_one _) ?_)
        exact bodyPost_ret (results_rowN rfl _ _ w.heap.size _ (tkC ⟨kd, nm, vl⟩) _ _ rfl (HA25.out.row _) Tryz.underlying116 rfl (infoTk ⟨kd, nm, vl⟩)) rfl ⟨⟨kd, nm, vl⟩, true, A5, cap' - 1, m, rfl, HP.out, HR'.out, moved_new HM5.out (Nat.le_refl _) (moved_setRow W5 w.heap.size _)⟩
end Go.Proofs.YtfcclppgjfkfoaaGreatDoor
