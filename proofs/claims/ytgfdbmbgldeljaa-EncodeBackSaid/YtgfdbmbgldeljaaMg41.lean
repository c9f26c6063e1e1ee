/- What Read of package token returns. Conditions: strings of at most 2^40 bytes. -/
import Derived.Test.YtgfdbmbgldeljaaMg40
import Derived.Test.YtgfdbmbgldeljaaMg32
namespace Go.Proofs.Ytgfdbmbgldeljaa
open Go.RowKit

/-- What a reader has found at a place: an error, the last token, or a token. -/
def TokIs (g : Nat) (s t : ByteArray) (a : Nat) (x : Int) (er : Nat) (W : World) : Prop :=
  ∃ (tk : TK) (sz pl : Int), Rdr W g s t tk.kd tk.nm tk.vl sz pl ∧
    ((er ≠ 0 ∧ stepR (s.data.toList.drop a) t.data.toList = .err er) ∨
     (er = 0 ∧ tk.kd = 9 ∧ a + 4 ≤ s.size ∧ frombig (s.data.toList.drop a) = 9 ∧ x = ((a + 4 : Nat) : Int)) ∨
     (er = 0 ∧ tk.kd ≠ 9 ∧ ∃ n, stepR (s.data.toList.drop a) t.data.toList = .tok tk n ∧ x = ((a + 4 + n : Nat) : Int) ∧ a + 4 + n ≤ s.size))
theorem tok_rest {g : Nat} {s t : ByteArray} {a : Nat} {x : Int} {er : Nat} {W : World} (ha : a + 4 ≤ s.size) (h : RestIs g s t (a + 4) (frombig (s.data.toList.drop a)) x er W) : TokIs g s t a x er W := by
  have hl : (s.data.toList.drop a).length = s.size - a := by rw [List.length_drop]; rfl
  have h4 : ¬ (s.data.toList.drop a).length < 4 := by omega
  have hd : s.data.toList.drop (a + 4) = (s.data.toList.drop a).drop 4 := by rw [List.drop_drop]
  obtain ⟨tk, sz, pl, hR, h⟩ := h
  refine ⟨tk, sz, pl, hR, ?_⟩
  rw [hd] at h
  rcases h with ⟨hk, bn, n, hb, h5⟩ | ⟨hk, tk', n, hp, h5⟩ | ⟨hk, h0, hx, htk⟩ | ⟨hk, h6⟩
  · obtain ⟨s1, s2⟩ := step_1 (tx := t.data.toList) h4 hk hb
    by_cases he : er = 0
    · obtain ⟨rfl, rfl⟩ := h5 he
      have hle := beginR_le (l := (s.data.toList.drop a).drop 4)
      rw [hb, List.length_drop, hl] at hle
      simp only at hle
      exact .inr (.inr ⟨he, (show (1 : Int) ≠ 9 by decide), n, s2 he, rfl, by omega⟩)
    · exact .inl ⟨he, s1 he⟩
  · obtain ⟨s1, s2⟩ := step_3 (tx := t.data.toList) h4 hk hp
    by_cases he : er = 0
    · obtain ⟨rfl, rfl⟩ := h5 he
      have hle := propR_le (l := (s.data.toList.drop a).drop 4) (tx := t.data.toList)
      rw [hp, List.length_drop, hl] at hle
      simp only at hle
      subst he
      obtain ⟨nm, vx, rfl, _⟩ := propR_ok hp
      exact .inr (.inr ⟨rfl, (show (3 : Int) ≠ 9 by decide), n, s2 rfl, rfl, by omega⟩)
    · exact .inl ⟨he, s1 he⟩
  · subst h0; subst hx; subst htk
    by_cases h9 : frombig (s.data.toList.drop a) = 9
    · exact .inr (.inl ⟨rfl, h9, ha, h9, rfl⟩)
    · refine .inr (.inr ⟨rfl, h9, 0, step_24 h4 (by omega), by simp, by omega⟩)
  · subst h6
    exact .inl ⟨by decide, step_no h4 (fun h => hk (.inl h)) (fun h => hk (.inr (.inl h))) (fun h => hk (by omega)) (fun h => hk (by omega))⟩

def readSteps : List Nat := [58, 59]
/-- The two steps as they lie in memory. -/
def stepC (g : Nat) : Array Value := #[.func (.func 58) #[.pointer (some ⟨g, 0, none⟩)] #[], .func (.func 59) #[.pointer (some ⟨g, 0, none⟩)] #[]]
theorem tok_any (g : Nat) (s t : ByteArray) (kd : Int) (nm vl : ByteArray) (sz pl : Int) (a : Nat) (w : World) (hA : Rdr w g s t kd nm vl sz pl) (ha : a ≤ s.size) (hm : s.size ≤ 1099511627776) (ht : t.size ≤ maxLen) :
    Calls Try.prog 57 #[.int .i64 (a : Int), .slice (some ⟨w.heap.size, 0, none⟩) 2 2] (w.alloc (.cells (stepC g) 140)) fun e w' => ∃ (nx : Int) (er : Nat), e = .returned (.tuple #[.int .i64 nx, .int .i64 (er : Int)]) ∧ w.grownBy w' (some g) ∧ TokIs g s t a nx er w' := by
  have hgl := Arr.lt hA
  have hl : (s.data.toList.drop a).length = s.size - a := by rw [List.length_drop]; rfl
  have h := advance_any g w.heap.size readSteps 2 (fun k x W => match k with
    | 0 => x = (a : Int) ∧ Rdr W g s t kd nm vl sz pl
    | 1 => a + 4 ≤ s.size ∧ x = ((a + 4 : Nat) : Int) ∧ Rdr W g s t (frombig (s.data.toList.drop a)) ByteArray.empty ByteArray.empty sz pl
    | _ => TokIs g s t a x 0 W) (TokIs g s t a) (a : Int) (w.alloc (.cells (stepC g) 140)) (by omega) ?_ ?_ (by decide) ?_ ⟨rfl, Arr.alloc hA _⟩ ?_ (fun x W h => h)
  · refine h.mono ?_
    rintro e w' ⟨nx, er, rfl, q1, q2⟩
    exact ⟨nx, er, rfl, World.grownBy.trans (gr_below ((Below.refl _ _).alloc (Nat.le_refl _) _)) q1, q2⟩
  · intro k hk
    have hk2 : k < 2 := hk
    have hA := Arr.new w 140 (stepC g)
    match k, hk2 with
    | 0, _ => exact hA.cell 0
    | 1, _ => exact hA.cell 1
  · rw [sz_alloc]; omega
  · intro k hk
    have hk2 : k < 2 := hk
    match k, hk2 with
    | 0, _ => exact ent_kind
    | 1, _ => exact ent_rest
  · intro k hk x W hI
    have hk2 : k < 2 := hk
    match k, hk2 with
    | 0, _ =>
      obtain ⟨rfl, hR⟩ := hI
      refine (kind_any g s t kd nm vl sz pl a W hR ha hm).mono ?_
      rintro e W' ⟨⟨h1, h2⟩, h3⟩
      by_cases h : s.size < a + 4
      · obtain ⟨rfl, h4⟩ := h1 h
        refine ⟨0, 14, rfl, h3, (fun h => by cases h), fun _ => ⟨⟨0, _, _⟩, sz, pl, h4, .inl ⟨by decide, ?_⟩⟩⟩
        unfold stepR
        rw [if_pos (by omega)]
      · obtain ⟨rfl, h4⟩ := h2 (by omega)
        exact ⟨_, 0, rfl, h3, fun _ => ⟨by omega, rfl, h4⟩, fun h => absurd rfl h⟩
    | 1, _ =>
      obtain ⟨h4, rfl, hR⟩ := hI
      refine (rest_any g s t _ sz pl (a + 4) W hR h4 hm ht).mono ?_
      rintro e W' ⟨nx, er, rfl, q1, q2⟩
      have hT := tok_rest h4 q2
      refine ⟨nx, er, rfl, q1, fun h0 => ?_, fun h0 => ?_⟩
      · subst h0; exact hT
      · obtain ⟨tk, sz', pl', hR', h6⟩ := hT
        refine ⟨tk, sz', pl', hR', ?_⟩
        rcases h6 with h6 | ⟨h6, _⟩ | ⟨h6, _⟩
        · exact .inl h6
        · exact absurd h6 h0
        · exact absurd h6 h0
end Go.Proofs.Ytgfdbmbgldeljaa

/- What Read of package token returns. Conditions: strings of at most 2^40 bytes. -/
namespace Go.Proofs.Ytgfdbmbgldeljaa
open Go.RowKit

/-- A new reader. -/
def rdC (s t : ByteArray) : Array Value := #[.string s, .string t, .int .i64 0, .string ByteArray.empty, .string ByteArray.empty, .int .i64 0, .int .i64 0]
theorem infoRd (s t : ByteArray) : (Try.prog.info? 121).map (·.size) = some (rdC s t).size := by show _ = some 7; kernel_rfl
theorem rdC_one (s t : ByteArray) : (rdC s t).all (·.oneCell') = true := by
  rw [Array.all_eq_true_iff_forall_mem]
  intro v hv
  simp [rdC] at hv
  rcases hv with rfl | rfl | rfl | rfl | rfl | rfl | rfl <;> rfl
theorem Rdr.range {w : World} {g : Nat} {s t : ByteArray} {kd : Int} {nm vl : ByteArray} {sz pl : Int} (h : Rdr w g s t kd nm vl sz pl) : w.rangeAt g 2 [.int .i64 kd, .string nm, .string vl] := by
  intro j v hj
  rw [Arr.cell h]
  match j, hj with
  | 0, hj => exact hj
  | 1, hj => exact hj
  | 2, hj => exact hj
theorem below_gr {B g : Nat} {w w' w'' : World} (h : Below B w w') (hg : w'.grownBy w'' (some g)) (hB : B ≤ g) (hz : B ≤ w'.heap.size) : Below B w w'' :=
  h.grown hg hz (fun k hk => by injection hk with hk; omega)

set_option maxHeartbeats 6400000 in
set_option maxRecDepth 100000 in
theorem read_any (s t : ByteArray) (w : World) (hs : s.size ≤ 1099511627776) (ht : t.size ≤ 1099511627776) :
    Calls Try.prog 41 #[.string s, .string t] w fun e w' => ∃ v, e = .returned (.tuple #[v, .int .i64 ((readR 1024 s.data.toList t.data.toList).2 : Int)]) ∧ Ret10 w' v (readR 1024 s.data.toList t.data.toList).1 ∧ Below w.heap.size w w' := by
  have HJ0 : Hid (readR 1024 s.data.toList t.data.toList = joinR [] (readR (1024 - ([] : List TK).length) (s.data.toList.drop 0) t.data.toList)) := by
    unfold Hid; rw [joinR_nil _ (readR_bad _ _ _)]; rfl
  have htm : t.size ≤ maxLen := by unfold maxLen; omega
  obtain ⟨R, hR⟩ : ∃ R, readR 1024 s.data.toList t.data.toList = R := ⟨_, rfl⟩
  rw [hR] at HJ0
  rw [hR]
  clear hR
  have HTA := Lib.hid (fun (g : Nat) (kd : Int) (nm vl : ByteArray) (sz pl : Int) (a : Nat) (W : World) (h : Rdr W g s t kd nm vl sz pl) (h2 : a ≤ s.size) => tok_any g s t kd nm vl sz pl a W h h2 hs htm)
  have HA0 : Hid (Arr (w.alloc (.cells (rdC ByteArray.empty ByteArray.empty) 121)) w.heap.size 121 (rdC ByteArray.empty ByteArray.empty)) := Arr.new w _ _
  have HA1 : Hid (Rdr ((w.alloc (.cells (rdC ByteArray.empty ByteArray.empty) 121)).setRow w.heap.size (rdC s t)) w.heap.size s t 0 ByteArray.empty ByteArray.empty 0 0) := HA0.out.row _
  have HB1 : Hid (Below w.heap.size w ((w.alloc (.cells (rdC ByteArray.empty ByteArray.empty) 121)).setRow w.heap.size (rdC s t))) := below_setRow ((Below.refl _ _).alloc (Nat.le_refl _) _) (Nat.le_refl _) _
  go_enter Try.func41, Try.ntmps41
  go_upto_region 2 with (first
    | (refine wpList_store_row rfl 121 (.tmp 6) (.tmp 13) rfl w.heap.size (rdC s t) rfl rfl _ _ HA0.out (infoRd _ _) rfl (rdC_one _ _) ?_))
  change Code.wp _ _ _ _ ((w.alloc (.cells (rdC ByteArray.empty ByteArray.empty) 121)).setRow w.heap.size (rdC s t))
  generalize (w.alloc (.cells (rdC ByteArray.empty ByteArray.empty) 121)).setRow w.heap.size (rdC s t) = w1 at *
  obtain ⟨g, hg⟩ : ∃ g, g = w.heap.size := ⟨_, rfl⟩
  rw [← hg] at HA1
  have hgB : w.heap.size ≤ g := by omega
  rw [← hg]
  clear HA0 hg
  go_wp2
  go_loopw [7, 8] (fun v av wr => ∃ (O : List TK) (a : Nat), av = .int .i64 (a : Int) ∧ a ≤ s.size ∧ O.length ≤ 1024 ∧ Hid (R = joinR O (readR (1024 - O.length) (s.data.toList.drop a) t.data.toList)) ∧ Got10 0 wr v O ∧ (∀ j, v.ownBlock = some j → w.heap.size ≤ j) ∧ (∃ kd nm vl sz pl, Rdr wr g s t kd nm vl sz pl) ∧ Below w.heap.size w wr) (fun _ av _ => s.size - (intOf av).toNat)
  case atStart => exact ⟨[], 0, rfl, Nat.zero_le _, Nat.zero_le _, HJ0, got_nil _ _, (fun _ hj => by cases hj), ⟨_, _, _, _, _, HA1.out⟩, HB1.out⟩
  case round =>
    clear HJ0 HA1 HB1
    obtain ⟨O, a, rfl, ha, hO, HJ, hown, hbl, ⟨kd, nm, vl, sz, pl, hRd⟩, hb⟩ := hrel
    obtain ⟨A, cap, rfl, _⟩ := row_rdTk hown
    have HB := Lib.hid hb
    have HOWN := Lib.hid hown
    have HBL := Lib.hid hbl
    have hsz := hb.size
    have HNE := Lib.hid (ow_arr hRd hown (by decide))
    clear hb hown hbl
    by_cases hk : O.length = 1024
    · have HE : Hid (R = ([], 7)) := by unfold Hid; rw [HJ.out, hk]; rfl
      have d0 : decide ((O.length : Int) < 1024) = false := decide_eq_false (by omega)
      clear HJ hRd HNE
      go_wp2
      go_ret2
      exact ⟨_, by rw [HE.out]; rfl, by rw [HE.out]; exact (got_nil 0 _).ret, HB.out⟩
    · have hk2 : (O.length : Int) < 1024 := by omega
      have d0 : decide ((O.length : Int) < 1024) = true := decide_eq_true hk2
      obtain ⟨m, hm⟩ : ∃ m, 1024 - O.length = m + 1 := ⟨1023 - O.length, by omega⟩
      have hm2 : m = 1024 - (O.length + 1) := by omega
      rw [hm] at HJ
      have HT := Lib.hid (HTA.out g kd nm vl sz pl a wr hRd ha)
      have HER : Hid (∀ e, e ≠ 0 → stepR (s.data.toList.drop a) t.data.toList = .err e → R = ([], e)) := fun e he h => by
        rw [HJ.out, readR_err h]; unfold joinR; rw [if_neg he]
      have HST : Hid (a + 4 ≤ s.size → frombig (s.data.toList.drop a) = 9 → (a + 4 = s.size → R = (O, 0)) ∧ (a + 4 ≠ s.size → R = ([], 6))) := fun h4 h9 => by
        have hl : (s.data.toList.drop a).length = s.size - a := by rw [List.length_drop]; rfl
        have hst := step_9 (l := s.data.toList.drop a) (tx := t.data.toList) (by omega) h9
        have hnil : (s.data.toList.drop a).drop 4 = [] ↔ a + 4 = s.size := by
          rw [List.drop_eq_nil_iff, hl]; omega
        refine ⟨fun h => ?_, fun h => ?_⟩
        · rw [HJ.out, readR_stop (hst.1 (hnil.2 h))]; unfold joinR; rw [if_pos rfl, List.append_nil]
        · rw [HJ.out, readR_err (hst.2 (fun hh => h (hnil.1 hh)))]; unfold joinR; rw [if_neg (by decide)]
      have HTO : Hid (∀ tk n, stepR (s.data.toList.drop a) t.data.toList = .tok tk n → R = joinR (O ++ [tk]) (readR (1024 - (O ++ [tk]).length) (s.data.toList.drop (a + 4 + n)) t.data.toList)) := fun tk n h => by
        rw [HJ.out, joinR_tok O h, List.drop_drop, List.drop_drop, List.length_append, hm2, show a + (4 + n) = a + 4 + n by omega]
        rfl
      clear HJ hRd
      go_wp2_with fail
      refine HT.out.mono ?_
      rintro e w2 ⟨nx, er, rfl, hg2, tk, sz', pl', hR2, hti⟩
      have HG2 := Lib.hid hg2
      have HR2 := Lib.hid hR2
      have HB2 := Lib.hid (below_gr HB.out hg2 hgB hsz)
      have hz2 := HB2.out.size
      have HOW2 : Hid (Got10 0 w2 (.slice A O.length cap) O) := World.ownsRow.kept HOWN.out hg2 (by
        cases hv : (Value.slice A O.length cap).ownBlock with
        | none => exact .inl rfl
        | some j => exact .inr (fun e => HNE.out (by rw [hv, e])))
      clear hg2 hR2 HT HTA HOWN HB
      rcases hti with ⟨he, hse⟩ | ⟨rfl, h9, ha4, hf9, rfl⟩ | ⟨rfl, h9, n, htok, rfl, han⟩
      · have HE := Lib.hid (HER.out er he hse)
        have d1 : ((er : Int) != 0) = true := by simp; omega
        clear HER HST HTO hse
        go_wp2
        go_ret2
        exact ⟨_, by rw [HE.out]; rfl, by rw [HE.out]; exact (got_nil 0 _).ret, HB2.out⟩
      · have k2 : w2.cell? ⟨g, 2, none⟩ = some (.int .i64 9) := by rw [Arr.cell HR2.out, ← h9]; rfl
        obtain ⟨q1, q2⟩ := HST.out ha4 hf9
        by_cases hse : a + 4 = s.size
        · have HE := Lib.hid (q1 hse)
          have d1 : (((a + 4 : Nat) : Int) != (s.size : Int)) = false := by simp; omega
          clear HER HST HTO q1 q2 h9
          go_wp2
          go_ret2
          exact ⟨_, by rw [HE.out]; rfl, by rw [HE.out]; exact HOW2.out.ret, HB2.out⟩
        · have HE := Lib.hid (q2 hse)
          have d1 : (((a + 4 : Nat) : Int) != (s.size : Int)) = true := by simp; omega
          clear HER HST HTO q1 q2 h9
          go_wp2
          go_ret2
          exact ⟨_, by rw [HE.out]; rfl, by rw [HE.out]; exact (got_nil 0 _).ret, HB2.out⟩
      · obtain ⟨pk, pn, pv⟩ := tk
        simp only at h9
        have HT := Lib.hid (HTO.out _ _ htok)
        have k2 : w2.cell? ⟨g, 2, none⟩ = some (.int .i64 pk) := Arr.cell HR2.out 2
        have d1 : (pk != 9) = true := by simpa using h9
        have HRG := Lib.hid HR2.out.range
        clear HER HST HTO htok h9
        go_wp2_with (first
          | (refine wpList_load_mid rfl 84 (.tmp 36) rfl g 2 rfl [.int .i64 pk, .string pn, .string pv] _ HRG.out Try.underlying84 rfl (infoTk ⟨pk, pn, pv⟩) ?_)
          | (at_builtin; refine append_tk rfl (.tmp 35) (.tmp 38) rfl ⟨pk, pn, pv⟩ (.slice A O.length cap) O rfl HOW2.out w2.heap.size rfl rfl (by omega) ?_; intro v3 w3 ho3 hm3; have HO3 := Lib.hid ho3; have HM3 := Lib.hid hm3; clear ho3 hm3))
        have HB3 := Lib.hid (HB2.out.trans (HM3.out.below HBL.out hz2))
        have HR3 : Hid (Rdr w3 g s t pk pn pv sz' pl') := HM3.out.arr HR2.out (fun h => HNE.out h.symm)
        go_roundw
        case rel => exact ⟨O ++ [⟨pk, pn, pv⟩], a + 4 + n, by go_num, han, by rw [List.length_append]; simp only [List.length_cons, List.length_nil]; omega, HT, (show Got10 0 w3 v3 (O ++ [⟨pk, pn, pv⟩]) from HO3.out), (fun j hj => by
          rcases HM3.out.foot j hj with h5 | h5
          · exact HBL.out j h5
          · exact Nat.le_trans hz2 h5), ⟨_, _, _, _, _, HR3.out⟩, HB3.out⟩
        case measure => simp only [intOf]; omega
end Go.Proofs.Ytgfdbmbgldeljaa
