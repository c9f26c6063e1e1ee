/- edit's pass, over any function that does a change at a node. Conditions: a tree of one's own of at most 10^6 properties and kids a node; names that are read. -/
import Derived.Test.YtfcclppgjfkfoaaGreatDoorMg26
import Derived.Test.YtfcclppgjfkfoaaGreatDoorMg3
import Derived.Test.YtfcclppgjfkfoaaGreatDoorMg6
import Derived.Deep.QuietTactic
import Derived.Test.YtfcclppgjfkfoaaGreatDoorMg15
import Derived.Test.YtfcclppgjfkfoaaGreatDoorMg9
import Derived.Test.YtfcclppgjfkfoaaGreatDoorMg14
import Derived.Test.YtfcclppgjfkfoaaGreatDoorMg7
namespace Go.Proofs.YtfcclppgjfkfoaaGreatDoor
open Go.RowKit

set_option maxHeartbeats 1600000 in
set_option maxRecDepth 100000 in
theorem pass_nil (w0 : World) (v : Value) (c : CH) (hc : ChangeOk w0 v c) (T : Option Addr) (cap : Nat) (n : ND) (p q : Value) (w : World) (b o : Nat) (cur : Array Value) (lo hi : Nat) (hb : Below w0.heap.size w0 w) (hA : At17 w b o cur lo hi n p q) (hw : wideR 1000000 1 n) :
    Calls Tryz.prog 81 #[.pointer (some ⟨b, o, none⟩), .slice T 0 cap, v] w fun e w' => e = .returned (.int .i64 ((hereR n c).2 : Nat)) ∧ Post17 w w' b o cur lo hi (hereR n c) := by
  obtain ⟨f, caps, rfl, hcf, hcl⟩ := hc
  have HC := Lib.hid (hcl w b o cur lo hi n p q hb hA hw.1 hw.2.1)
  clear hcl hA hw hb
  generalize hereR n c = R at *
  go_enter Tryz.func81, Tryz.ntmps81
  go_wp2_with fail
  refine HC.out.mono ?_
  rintro e w1 ⟨rfl, hp⟩
  have HP := Lib.hid hp
  clear hp HC
  go_wp2
  go_ret
  exact ⟨rfl, HP.out⟩

set_option maxHeartbeats 1600000 in
set_option maxRecDepth 100000 in
theorem pass_cons (w0 : World) (f : FuncId) (caps : Array Value) (c : CH) (s : ByteArray) (L : List ByteArray)
    (hrec : ∀ (T : Option Addr) (cap : Nat) (n : ND) (p q : Value) (w : World) (b o : Nat) (cur : Array Value) (lo hi : Nat), Below w0.heap.size w0 w → At17 w b o cur lo hi n p q → wideR 1000000 (L.length + 1) n → RdT w T L → L.length ≤ cap →
      Calls Tryz.prog 81 #[.pointer (some ⟨b, o, none⟩), .slice T L.length cap, .func (.func f) #[] caps] w fun e w' => e = .returned (.int .i64 ((downR n L c).2 : Nat)) ∧ Post17 w w' b o cur lo hi (downR n L c))
    (T : Option Addr) (cap : Nat) (n : ND) (p q : Value) (w : World) (b o : Nat) (cur : Array Value) (lo hi : Nat) (hb : Below w0.heap.size w0 w) (hA : At17 w b o cur lo hi n p q) (hw : wideR 1000000 (L.length + 1 + 1) n) (hT : RdT w T (s :: L)) (hcap : L.length + 1 ≤ cap) :
    Calls Tryz.prog 81 #[.pointer (some ⟨b, o, none⟩), .slice T (L.length + 1) cap, .func (.func f) #[] caps] w fun e w' => e = .returned (.int .i64 ((downR n (s :: L) c).2 : Nat)) ∧ Post17 w w' b o cur lo hi (downR n (s :: L) c) := by
  obtain ⟨A, K0, pc, kc, rfl, rfl, _, _, c2, hN, _, _⟩ := at_shape hA
  obtain ⟨tb, tof, x, rfl, t0, HX⟩ := hT.at_ (k := 0) (by simp)
  have hx : s = x := HX.out
  subst hx
  have t0 : w.cell? ⟨tb, tof, none⟩ = some (.string s) := t0
  have HRT : Hid (RdT w (if cap = 1 then some ⟨tb, tof, none⟩ else some ⟨tb, tof + 1, none⟩) L) := by
    rcases hT with h | ⟨b', o', e, hcl⟩
    · cases h
    injection e with e
    injection e with e1 e2
    subst e1
    subst e2
    by_cases h1 : cap = 1
    · exact .inl (List.length_eq_zero_iff.1 (by omega))
    · refine .inr ⟨tb, tof + 1, if_neg h1, fun j hj => ?_⟩
      have h := hcl (j + 1) (by rw [List.length_cons]; omega)
      rw [show tof + 1 + j = tof + (j + 1) by omega]
      exact h
  have hwk := hw.2.1
  have HPC := Lib.hid (child_any _ n _ K0 kc b o s w hN (by omega) c2)
  have HA := Lib.hid hA
  have HB := Lib.hid hb
  have HW := Lib.hid hw
  have HREC := Lib.hid hrec
  have d0 : ((L.length : Int) + 1 == 0) = false := by simp; omega
  have hl1 : (0 : Int) < (L.length : Int) + 1 := by omega
  have HTA : Hid (L.length ≤ cap - 1) := by unfold Hid; omega
  clear hA hb hw hrec hN c2 hT
  go_enter Tryz.func81, Tryz.ntmps81
  go_wp2_with fail
  refine HPC.out.mono ?_
  rintro e w2 ⟨⟨r, rfl, hr⟩, hb2⟩
  have HA2 := Lib.hid (HA.out.below hb2)
  rcases ix_kid hr with ⟨rfl, hno⟩ | ⟨i, rfl, hi', hyes, hnm, hrp, _⟩
  · have HE : Hid (downR n (s :: L) c = (nd0, 8)) := by
      unfold Hid
      rw [downR, hno]
    have HF : Hid (Post17 w w2 b o cur lo hi (nd0, 8)) := post_no HA.out hb2 (by decide)
    clear hno hr hb2 HPC HREC HRT t0
    go_wp2
    go_ret
    exact ⟨by rw [HE.out]; rfl, by rw [HE.out]; exact HF.out⟩
  · have hbd : Below w2.heap.size w2 w2.drew := (Below.refl _ _).drew
    have hAd := HA2.out.below hbd
    have hbw : Below w.heap.size w w2.drew := hb2.trans (hbd.mono hb2.size)
    obtain ⟨bq, kc', curq, l', h', y, z, eq, ak, ok1, ok2, ok3⟩ := at_kid hAd hi'
    injection eq with eq1 _ eq3
    subst eq1
    subst eq3
    have hm17 : n.ks.getD i nd0 ∈ n.ks := by
      rw [List.getD_eq_getElem?_getD, List.getElem?_eq_getElem hi']
      exact List.getElem_mem hi'
    have hcall := HREC.out (if cap = 1 then some ⟨tb, tof, none⟩ else some ⟨tb, tof + 1, none⟩) (cap - 1) (n.ks.getD i nd0) y z w2.drew bq (i * 3) curq l' h' (HB.out.trans (hbw.mono HB.out.size)) ak (HW.out.2.2 _ hm17) (HRT.out.below hbw) HTA.out
    have HD : Hid (downR n (s :: L) c = if (downR (n.ks.getD i nd0) L c).2 = 0 then (.mk n.nm n.ps (n.ks.take i ++ (downR (n.ks.getD i nd0) L c).1 :: n.ks.drop (i + 1)), 0) else (nd0, (downR (n.ks.getD i nd0) L c).2)) := by
      unfold Hid
      rw [downR, hyes]
      simp only [hrp]
    have HNM : Hid ((downR (n.ks.getD i nd0) L c).2 = 0 → (downR (n.ks.getD i nd0) L c).1.nm = (n.ks.getD i nd0).nm) := fun h => down_nm h
    have HQ : Hid (Calls Tryz.prog 81 #[.pointer (some ⟨bq, i * 3, none⟩), .slice (if cap = 1 then some ⟨tb, tof, none⟩ else some ⟨tb, tof + 1, none⟩) L.length (cap - 1), .func (.func f) #[] caps] w2.drew fun e w' => e = .returned (.int .i64 ((downR n (s :: L) c).2 : Nat)) ∧ Post17 w w' b o cur lo hi (downR n (s :: L) c) ∧ w'.cell? ⟨b, o + 2, none⟩ = some (.slice (some ⟨bq, 0, none⟩) n.ks.length kc)) := by
      refine hcall.mono ?_
      rintro e w3 ⟨rfl, hp⟩
      have ha3 := ok3 w3 _ hp
      have hcc : w3.cell? ⟨b, o + 2, none⟩ = some (.slice (some ⟨bq, 0, none⟩) n.ks.length kc) := by rw [ha3.cell]; exact hAd.c2
      rw [HD.out]
      by_cases h0 : (downR (n.ks.getD i nd0) L c).2 = 0
      · rw [if_pos h0]
        exact ⟨by rw [h0], (ok1 w3 _ hp h0 (HNM.out h0)).later hbw, hcc⟩
      · rw [if_neg h0]
        exact ⟨rfl, (ok2 w3 _ _ hp h0).later hbw, hcc⟩
    have HS0 : Hid (w2.drew.cell? ⟨b, o + 2, none⟩ = some (.slice (some ⟨bq, 0, none⟩) n.ks.length kc)) := by
      unfold Hid; rw [hAd.arr.cell]; exact hAd.c2
    have d1 : decide ((i : Int) < 0) = false := decide_eq_false (by omega)
    have hii : (i : Int) < (n.ks.length : Int) := by omega
    have h1c : (1 : Int) ≤ (L.length : Int) + 1 := by omega
    clear hcall HD HNM ok1 ok2 ok3 ak hAd HA HA2 HREC HRT HB HW hm17 hyes hnm hrp hr hb2 HPC hbd hbw hi' t0
    go_upto_region 6 with fail
    refine wp_region_held_drew (S := fun (w' : World) => w'.cell? ⟨b, o + 2, none⟩ = some (.slice (some ⟨bq, 0, none⟩) n.ks.length kc)) (by kernel_rfl) (by exact HS0.out) (fun hHeld => ?_)
    refine takeH 0 21 rfl rfl (v := ?_) (by kernel_rfl) (by kernel_rfl) (by kernel_rfl) (fun _ _ _ h => h) (Or.inl ⟨by rfl, ?_⟩) hHeld ?_
    rotate_left 1
    · (intro w hSw; (try dsimp only at hSw); go_simp; try (with_reducible rfl))
    (try simp only [Act.put]); (try simp only [List.setIfInBounds_toArray]); (try simp only [List.set_cons_succ]); (try simp only [List.set_cons_zero])
    refine takeH 1 22 rfl rfl (v := ?_) (by kernel_rfl) (by kernel_rfl) (by kernel_rfl) (fun _ _ _ h => h) (Or.inl ⟨by rfl, ?_⟩) hHeld ?_
    rotate_left 1
    · (intro w hSw; (try dsimp only at hSw); go_simp; try (with_reducible rfl))
    (try simp only [Act.put]); (try simp only [List.setIfInBounds_toArray]); (try simp only [List.set_cons_succ]); (try simp only [List.set_cons_zero])
    refine takeH 2 23 rfl rfl (v := ?_) (by kernel_rfl) (by kernel_rfl) (by kernel_rfl) (fun _ _ _ h => h) (Or.inl ⟨by rfl, ?_⟩) hHeld ?_
    rotate_left 1
    · (intro w hSw; (try dsimp only at hSw); go_simp; try (with_reducible rfl))
    (try simp only [Act.put]); (try simp only [List.setIfInBounds_toArray]); (try simp only [List.set_cons_succ]); (try simp only [List.set_cons_zero])
    refine takeH 3 24 rfl rfl (v := ?_) (by kernel_rfl) (by kernel_rfl) (by kernel_rfl) (fun _ _ _ h => h) (Or.inl ⟨by rfl, ?_⟩) hHeld ?_
    rotate_left 1
    · (intro w hSw; (try dsimp only at hSw); go_simp; try (with_reducible rfl))
    (try simp only [Act.put]); (try simp only [List.setIfInBounds_toArray]); (try simp only [List.set_cons_succ]); (try simp only [List.set_cons_zero])
    refine takeH 4 25 rfl rfl (v := ?_) (by kernel_rfl) (by kernel_rfl) (by kernel_rfl) (fun _ _ _ h => h) (Or.inl ⟨by rfl, ?_⟩) hHeld ?_
    rotate_left 1
    · (intro w hSw; (try dsimp only at hSw); go_simp; try (with_reducible rfl))
    (try simp only [Act.put]); (try simp only [List.setIfInBounds_toArray]); (try simp only [List.set_cons_succ]); (try simp only [List.set_cons_zero])
    refine takeH 5 26 rfl rfl (v := ?_) (by kernel_rfl) (by kernel_rfl) (by kernel_rfl) (fun _ _ _ h => h) (Or.inl ⟨by rfl, ?_⟩) hHeld ?_
    rotate_left 1
    · (intro w hSw; (try dsimp only at hSw); go_simp; try (with_reducible rfl))
    (try simp only [Act.put]); (try simp only [List.setIfInBounds_toArray]); (try simp only [List.set_cons_succ]); (try simp only [List.set_cons_zero])
    refine takeH 6 27 rfl rfl (v := ?_) (by kernel_rfl) (by kernel_rfl) (by kernel_rfl) (fun _ _ _ h => h) (Or.inl ⟨by rfl, ?_⟩) hHeld ?_
    rotate_left 1
    · (intro w hSw; (try dsimp only at hSw); go_simp; try (with_reducible rfl))
    (try simp only [Act.put]); (try simp only [List.setIfInBounds_toArray]); (try simp only [List.set_cons_succ]); (try simp only [List.set_cons_zero])
    refine takeH 7 28 rfl rfl (v := ?_) (by kernel_rfl) (by kernel_rfl) (by kernel_rfl) (fun _ _ _ h => h) (Or.inl ⟨by rfl, ?_⟩) hHeld ?_
    rotate_left 1
    · (intro w hSw; (try dsimp only at hSw); go_simp; try (with_reducible rfl))
    (try simp only [Act.put]); (try simp only [List.setIfInBounds_toArray]); (try simp only [List.set_cons_succ]); (try simp only [List.set_cons_zero])
    refine takeH 8 29 rfl rfl (v := ?_) (by kernel_rfl) (by kernel_rfl) (by kernel_rfl) (fun _ _ _ h => h) (Or.inl ⟨by rfl, ?_⟩) hHeld ?_
    rotate_left 1
    · (intro w hSw; (try dsimp only at hSw); go_simp; try (with_reducible rfl))
    (try simp only [Act.put]); (try simp only [List.setIfInBounds_toArray]); (try simp only [List.set_cons_succ]); (try simp only [List.set_cons_zero])
    refine wpAnyH_ready (rs := [9]) (by kernel_rfl) (by simp) (AllReadyH.cons rfl (fun K hK => ?_) AllReadyH.nil)
    go_simp
    refine HQ.out.mono ?_
    rintro e w3 ⟨rfl, hp, hcc⟩
    (try dsimp only)
    refine hK.out _ _ (by exact hcc) (fun hHeld => ?_)
    clear hK K
    (try simp only [Act.put]); (try simp only [List.setIfInBounds_toArray]); (try simp only [List.set_cons_succ]); (try simp only [List.set_cons_zero])
    refine wpAnyH_ready (rs := [10]) (by kernel_rfl) (by simp) (AllReadyH.cons rfl (fun K hK => ?_) AllReadyH.nil)
    go_simp
    refine hK.out _ _ (by exact hcc) (fun hHeld => ?_)
    clear hK K
    (try simp only [Act.put]); (try simp only [List.setIfInBounds_toArray]); (try simp only [List.set_cons_succ]); (try simp only [List.set_cons_zero])
    refine wpAnyH_done (by kernel_rfl) ?_ _
    have HP := Lib.hid hp
    clear hp hcc hHeld HQ HS0
    generalize (if cap = 1 then some (⟨tb, tof, none⟩ : Addr) else some ⟨tb, tof + 1, none⟩) = TA at *
    go_wp2
    go_ret
    exact ⟨rfl, HP.out⟩

theorem pass_any (w0 : World) (v : Value) (c : CH) (hc : ChangeOk w0 v c) : ∀ (L : List ByteArray) (T : Option Addr) (cap : Nat) (n : ND) (p q : Value) (w : World) (b o : Nat) (cur : Array Value) (lo hi : Nat), Below w0.heap.size w0 w → At17 w b o cur lo hi n p q → wideR 1000000 (L.length + 1) n → RdT w T L → L.length ≤ cap →
    Calls Tryz.prog 81 #[.pointer (some ⟨b, o, none⟩), .slice T L.length cap, v] w fun e w' => e = .returned (.int .i64 ((downR n L c).2 : Nat)) ∧ Post17 w w' b o cur lo hi (downR n L c)
  | [], T, cap, n, p, q, w, b, o, cur, lo, hi, hb, hA, hw, _, _ => pass_nil w0 v c hc T cap n p q w b o cur lo hi hb hA hw
  | s :: L, T, cap, n, p, q, w, b, o, cur, lo, hi, hb, hA, hw, hT, hcap => by
    obtain ⟨f, caps, e, _⟩ := id hc
    have hrec := fun T cap n p q w b o cur lo hi => pass_any w0 v c hc L T cap n p q w b o cur lo hi
    subst e
    exact pass_cons w0 f caps c s L hrec T cap n p q w b o cur lo hi hb hA hw hT hcap
end Go.Proofs.YtfcclppgjfkfoaaGreatDoor

/- What package tree's count, Count and Fits return. Conditions: a tree that is read, of at most 2^40 nodes and properties. -/
namespace Go.Proofs.YtfcclppgjfkfoaaGreatDoor
open Go.RowKit

theorem foldl_ct0 : ∀ (l : List ND) (x : CT), l.foldl (fun x y => ctAdd x (countR 0 y)) x = x
  | [], _ => rfl
  | y :: l, x => by
    rw [List.foldl_cons, foldl_ct0 l]
    obtain ⟨a, b, c⟩ := x
    simp [ctAdd, countR]
theorem countR_one (n : ND) : countR 1 n = ⟨1, n.ps.length, 1⟩ := by
  show (⟨(n.ks.foldl (fun x y => ctAdd x (countR 0 y)) ⟨1, n.ps.length, 0⟩).a, (n.ks.foldl (fun x y => ctAdd x (countR 0 y)) ⟨1, n.ps.length, 0⟩).b, (n.ks.foldl (fun x y => ctAdd x (countR 0 y)) ⟨1, n.ps.length, 0⟩).c + 1⟩ : CT) = _
  rw [foldl_ct0]

set_option maxHeartbeats 3200000 in
set_option maxRecDepth 100000 in
theorem tcount_any : ∀ (k L : Nat) (G : Nat → Prop) (n : ND) (v2 v3 : Value) (w : World), L + k = 9 → (countR (k + 1) n).a ≤ 1099511627776 → (countR (k + 1) n).b ≤ 1099511627776 → NdAt w G n v2 v3 →
    Calls Tryz.prog 88 #[.agg #[.string n.nm, v2, v3], .int .i64 (L : Int)] w fun e w' => e = .returned (.tuple #[.int .i64 ((countR (k + 1) n).a : Int), .int .i64 ((countR (k + 1) n).b : Int), .int .i64 ((countR (k + 1) n).c : Int)]) ∧ Below w.heap.size w w'
  | 0, L, G, n, v2, v3, w, hLk, _, _, hN => by
    obtain ⟨A, K, pc, kc, rfl, rfl, hpc, hpm, hkc, hkm⟩ := nd_shape hN
    unfold maxLen at hpm hkm
    rw [countR_one]
    obtain ⟨W1, hW1⟩ : ∃ W1, W1 = w.alloc (.cells #[.string n.nm, .slice A n.ps.length pc, .slice K n.ks.length kc] 28) := ⟨_, rfl⟩
    obtain ⟨g8, hg8⟩ : ∃ g8, g8 = w.heap.size := ⟨_, rfl⟩
    have hB1 : Below w.heap.size w W1 := by rw [hW1]; exact (Below.refl _ _).alloc (Nat.le_refl _) _
    have hA8 : Arr W1 g8 28 #[.string n.nm, .slice A n.ps.length pc, .slice K n.ks.length kc] := by rw [hW1, hg8]; exact Arr.new w _ _
    have k1 : W1.cell? ⟨g8, 1, none⟩ = some (.slice A n.ps.length pc) := hA8.cell 1
    have HB1 := Lib.hid hB1
    have hz1 := hB1.size
    have hL9 : L = 9 := by omega
    have c1 : decide ((8 : Int) < (L : Int)) = true := decide_eq_true (by omega)
    clear hN hB1 hA8 hLk hL9
    go_enter Tryz.func88, Tryz.ntmps88
    go_upto_region 1 with fail
    rw [← hW1, ← hg8]
    clear hW1 hg8
    go_quiet (fail)
    have HB2 := Lib.hid (HB1.out.trans ((below_drewN W1 nq).mono hz1))
    go_wp2
    go_ret3
    exact ⟨rfl, HB2.out⟩
  | k + 1, L, _, n, v2, v3, w, hLk, ha, hb, hN0 => by
    have hN := nd_lt hN0
    clear hN0
    have HIH := Lib.hid (fun x y z W h1 h2 h => tcount_any k (L + 1) (fun b => b < w.heap.size) x y z W (by omega) h1 h2 h)
    have e1 : ((L + 1 : Nat) : Int) = (L : Int) + 1 := by omega
    rw [e1] at HIH
    obtain ⟨A, K, pc, kc, rfl, rfl, hpc, hpm, hkc, hkm⟩ := nd_shape hN
    unfold maxLen at hpm hkm
    have HKL := Lib.hid (fun j (hj : j < n.ks.length) => kid_le (k + 1) n hj)
    have HFL := Lib.hid (fun j (hj : j ≤ n.ks.length) => ctF_le (k + 1) n hj)
    have HDL := Lib.hid (depth_le (k + 1 + 1) n)
    have HSU := Lib.hid (fun j (hj : j < n.ks.length) => ctF_succ (k + 1) n hj)
    have HRE := Lib.hid (countR_eq (k + 1) n)
    have HF0 : Hid (ctF (k + 1) n 0 = ⟨1, n.ps.length, 0⟩) := rfl
    generalize countR (k + 1 + 1) n = R at *
    have c1 : decide ((8 : Int) < (L : Int)) = false := decide_eq_false (by omega)
    have hk20 : k + 1 + 1 ≤ 20 := by omega
    have hL9 : L ≤ 9 := by omega
    obtain ⟨W1, hW1⟩ : ∃ W1, W1 = w.alloc (.cells #[.string n.nm, .slice A n.ps.length pc, .slice K n.ks.length kc] 28) := ⟨_, rfl⟩
    obtain ⟨g8, hg8⟩ : ∃ g8, g8 = w.heap.size := ⟨_, rfl⟩
    have hB1 : Below w.heap.size w W1 := by rw [hW1]; exact (Below.refl _ _).alloc (Nat.le_refl _) _
    have hA8 : Arr W1 g8 28 #[.string n.nm, .slice A n.ps.length pc, .slice K n.ks.length kc] := by rw [hW1, hg8]; exact Arr.new w _ _
    have HN1 := Lib.hid (nd_below hN hB1)
    have HA8 := Lib.hid hA8
    have HB1 := Lib.hid hB1
    have hz1 := hB1.size
    have k1 : W1.cell? ⟨g8, 1, none⟩ = some (.slice A n.ps.length pc) := hA8.cell 1
    have k2 : W1.cell? ⟨g8, 2, none⟩ = some (.slice K n.ks.length kc) := hA8.cell 2
    clear hN hB1 hA8 hLk e1
    go_enter Tryz.func88, Tryz.ntmps88
    go_upto_region 1 with fail
    rw [← hW1, ← hg8]
    clear hW1 hg8
    go_quiet (fail)
    have HB2 := Lib.hid (HB1.out.trans ((below_drewN W1 nq).mono hz1))
    have HN2 := Lib.hid (nd_below HN1.out (below_drewN W1 nq))
    have k3 : (W1.drewN nq).cell? ⟨g8, 2, none⟩ = some (.slice K n.ks.length kc) := k2
    have hz2 := HB2.out.size
    clear HN1 HB1 k1 k2 HA8
    generalize W1.drewN nq = W2 at *
    go_wp2
    go_loopw [4, 5, 6, 23] (fun s4 s5 s6 i wr => ∃ (j a b c D : Nat), j ≤ n.ks.length ∧ i = .int .i64 j ∧ s4 = .int .i64 a ∧ s5 = .int .i64 b ∧ s6 = .int .i64 D ∧ Hid (ctF (k + 1) n j = ⟨a, b, c⟩ ∧ D = c + 1) ∧ Below W2.heap.size W2 wr) (fun _ _ _ i _ => n.ks.length - (intOf i).toNat)
    case atStart => exact ⟨0, 1, n.ps.length, 0, 1, Nat.zero_le _, rfl, rfl, rfl, rfl, ⟨HF0.out, rfl⟩, Below.refl _ _⟩
    case round =>
      clear HF0 k3
      obtain ⟨j, a, b, c, D, hj, rfl, rfl, rfl, rfl, HCT, hbr⟩ := hrel
      have HBR := Lib.hid hbr
      have hzr := hbr.size
      have hfl := HFL.out j hj
      rw [HCT.out.1] at hfl
      simp only at hfl
      have hD : D = c + 1 := HCT.out.2
      have HD := Lib.hid hD
      have hDb : D ≤ R.c := by omega
      have hRc : R.c ≤ 20 := by have := HDL.out; omega
      clear hD
      by_cases hlt : j < n.ks.length
      · have hji : (j : Int) < n.ks.length := by omega
        obtain ⟨b0, off, x, y, z, rfl, h1, h2, h3, h4, HX⟩ := nd_kid (nd_below HN2.out hbr) hlt
        have hkl := HKL.out j hlt
        have hsu := HSU.out j hlt
        rw [HX.out] at hkl hsu
        rw [HCT.out.1] at hsu
        have HSJ := Lib.hid hsu
        obtain ⟨ya, za, yc, zc, rfl, rfl, _⟩ := nd_shape h4
        have hA9 := Arr.new wr 28 #[.string x.nm, .slice ya x.ps.length yc, .slice za x.ks.length zc]
        have hb9 : Below wr.heap.size wr (wr.alloc (.cells #[.string x.nm, .slice ya x.ps.length yc, .slice za x.ks.length zc] 28)) := (Below.refl _ _).alloc (Nat.le_refl _) _
        have HC := Lib.hid (HIH.out x _ _ _ (by omega) (by omega) (nd_below h4 hb9))
        have HBR9 := Lib.hid (HBR.out.trans (hb9.mono hzr))
        have q0 := hA9.cell 0
        have q1 := hA9.cell 1
        have q2 := hA9.cell 2
        simp only [List.getElem?_toArray, List.getElem?_cons_zero, List.getElem?_cons_succ] at q0 q1 q2
        clear hbr h4 HX hsu hA9 hb9
        rcases hxc : countR (k + 1) x with ⟨a', b', c'⟩
        rw [hxc] at HC hkl HSJ
        simp only at hkl
        clear hxc
        go_upto_region 7 with fail
        generalize wr.alloc (.cells #[.string x.nm, .slice ya x.ps.length yc, .slice za x.ks.length zc] 28) = W9 at *
        generalize wr.heap.size = g9 at *
        go_wp2_with fail
        refine HC.out.mono ?_
        rintro e w3 ⟨rfl, hb3⟩
        have HBR3 := Lib.hid (HBR9.out.trans (hb3.mono HBR9.out.size))
        clear hb3 HC
        by_cases hcc : c < c'
        · have hcc' : (D : Int) < 1 + (c' : Int) := by have := HD.out; omega
          have HE : Hid (ctF (k + 1) n (j + 1) = ⟨a + a', b + b', c'⟩ ∧ 1 + c' = c' + 1) := by
            refine ⟨?_, by omega⟩
            rw [HSJ.out]; simp only [ctAdd]; rw [show max c c' = c' by omega]
          go_wp2
          go_roundw
          case rel => exact ⟨j + 1, a + a', b + b', c', 1 + c', by omega, by go_num, by go_num, by go_num, by go_num, HE, HBR3.out⟩
          case measure => simp [intOf]; omega
        · have hcc' : 1 + (c' : Int) ≤ (D : Int) := by have := HD.out; omega
          have HE : Hid (ctF (k + 1) n (j + 1) = ⟨a + a', b + b', c⟩ ∧ D = c + 1) := by
            refine ⟨?_, HD.out⟩
            rw [HSJ.out]; simp only [ctAdd]; rw [show max c c' = c by omega]
          go_wp2
          go_roundw
          case rel => exact ⟨j + 1, a + a', b + b', c, D, by omega, by go_num, by go_num, by go_num, by go_num, HE, HBR3.out⟩
          case measure => simp [intOf]; omega
      · obtain rfl : j = n.ks.length := by omega
        have hre := HRE.out
        rw [HCT.out.1] at hre
        have HRR := Lib.hid hre
        have HDD : Hid (D = c + 1) := HD.out
        have HB3 := Lib.hid (HB2.out.trans (hbr.mono hz2))
        clear hre hbr
        go_wp2
        go_ret3
        exact ⟨by rw [HRR.out, HDD.out]; rfl, HB3.out⟩

set_option maxHeartbeats 800000 in
set_option maxRecDepth 100000 in
theorem tCount_any (G : Nat → Prop) (n : ND) (v2 v3 : Value) (w : World) (ha : (countR 9 n).a ≤ 1099511627776) (hb : (countR 9 n).b ≤ 1099511627776) (hN : NdAt w G n v2 v3) :
    Calls Tryz.prog 54 #[.agg #[.string n.nm, v2, v3]] w fun e w' => e = .returned (.tuple #[.int .i64 ((countR 9 n).a : Int), .int .i64 ((countR 9 n).b : Int), .int .i64 ((countR 9 n).c : Int)]) ∧ Below w.heap.size w w' := by
  obtain ⟨W1, hW1⟩ : ∃ W1, W1 = w.alloc (.cells #[.string n.nm, v2, v3] 28) := ⟨_, rfl⟩
  obtain ⟨g8, hg8⟩ : ∃ g8, g8 = w.heap.size := ⟨_, rfl⟩
  have hB1 : Below w.heap.size w W1 := by rw [hW1]; exact (Below.refl _ _).alloc (Nat.le_refl _) _
  have hA8 : Arr W1 g8 28 #[.string n.nm, v2, v3] := by rw [hW1, hg8]; exact Arr.new w _ _
  have HB1 := Lib.hid hB1
  have hz1 := hB1.size
  have k0 : W1.cell? ⟨g8, 0, none⟩ = some (.string n.nm) := hA8.cell 0
  have k1 : W1.cell? ⟨g8, 1, none⟩ = some v2 := hA8.cell 1
  have k2 : W1.cell? ⟨g8, 2, none⟩ = some v3 := hA8.cell 2
  have HC : Hid (Calls Tryz.prog 88 #[.agg #[.string n.nm, v2, v3], .int .i64 1] W1 fun e w' => e = .returned (.tuple #[.int .i64 ((countR 9 n).a : Int), .int .i64 ((countR 9 n).b : Int), .int .i64 ((countR 9 n).c : Int)]) ∧ Below W1.heap.size W1 w') := tcount_any 8 1 G n v2 v3 W1 rfl ha hb (nd_below hN hB1)
  rcases hxc : countR 9 n with ⟨a, b, c⟩
  rw [hxc] at HC
  clear hN hB1 hA8 ha hb hxc
  go_enter Tryz.func54, Tryz.ntmps54
  go_upto_region 1 with fail
  rw [← hW1, ← hg8]
  clear hW1 hg8
  go_wp2_with fail
  refine HC.out.mono ?_
  rintro e w3 ⟨rfl, hb3⟩
  have HB3 := Lib.hid (HB1.out.trans (hb3.mono hz1))
  clear hb3 HC
  go_wp2
  go_ret3
  exact ⟨rfl, HB3.out⟩

set_option maxHeartbeats 1600000 in
set_option maxRecDepth 100000 in
theorem tFits_any (G : Nat → Prop) (n : ND) (v2 v3 : Value) (w : World) (ha : (countR 9 n).a ≤ 1099511627776) (hb : (countR 9 n).b ≤ 1099511627776) (hN : NdAt w G n v2 v3) :
    Calls Tryz.prog 55 #[.agg #[.string n.nm, v2, v3]] w fun e w' => e = .returned (.bool (fitsR n)) ∧ Below w.heap.size w w' := by
  obtain ⟨W1, hW1⟩ : ∃ W1, W1 = w.alloc (.cells #[.string n.nm, v2, v3] 28) := ⟨_, rfl⟩
  obtain ⟨g8, hg8⟩ : ∃ g8, g8 = w.heap.size := ⟨_, rfl⟩
  have hB1 : Below w.heap.size w W1 := by rw [hW1]; exact (Below.refl _ _).alloc (Nat.le_refl _) _
  have hA8 : Arr W1 g8 28 #[.string n.nm, v2, v3] := by rw [hW1, hg8]; exact Arr.new w _ _
  have HB1 := Lib.hid hB1
  have hz1 := hB1.size
  have k0 : W1.cell? ⟨g8, 0, none⟩ = some (.string n.nm) := hA8.cell 0
  have k1 : W1.cell? ⟨g8, 1, none⟩ = some v2 := hA8.cell 1
  have k2 : W1.cell? ⟨g8, 2, none⟩ = some v3 := hA8.cell 2
  have HC := Lib.hid (tCount_any G n v2 v3 W1 ha hb (nd_below hN hB1))
  have HE : Hid (fitsR n = (decide (((countR 9 n).a : Int) ≤ 64) && (decide (((countR 9 n).b : Int) ≤ 256) && decide (((countR 9 n).c : Int) ≤ 8)))) := fit_bool _ _ _
  generalize fitsR n = R at *
  rcases hxc : countR 9 n with ⟨a, b, c⟩
  rw [hxc] at HC HE
  clear hN hB1 hA8 ha hb hxc
  go_enter Tryz.func55, Tryz.ntmps55
  go_upto_region 1 with fail
  rw [← hW1, ← hg8]
  clear hW1 hg8
  go_wp2_with fail
  refine HC.out.mono ?_
  rintro e w3 ⟨rfl, hb3⟩
  have HB4 := Lib.hid (HB1.out.trans (hb3.mono hz1))
  clear hb3 HC
  cases d1 : decide ((a : Int) ≤ 64) with
  | false =>
    rw [d1] at HE
    go_wp2
    go_ret
    exact ⟨by rw [HE.out]; rfl, HB4.out⟩
  | true =>
    rw [d1] at HE
    cases d2 : decide ((b : Int) ≤ 256) with
    | false =>
      rw [d2] at HE
      go_wp2
      go_ret
      exact ⟨by rw [HE.out]; rfl, HB4.out⟩
    | true =>
      rw [d2] at HE
      cases d3 : decide ((c : Int) ≤ 8) with
      | false =>
        rw [d3] at HE
        go_wp2
        go_ret
        exact ⟨by rw [HE.out]; rfl, HB4.out⟩
      | true =>
        rw [d3] at HE
        go_wp2
        go_ret
        exact ⟨by rw [HE.out]; rfl, HB4.out⟩
end Go.Proofs.YtfcclppgjfkfoaaGreatDoor

/- A slice that reads as spots. No condition. -/
namespace Go.Proofs.YtfcclppgjfkfoaaGreatDoor
open Go.RowKit

/-- The slice at A reads as spots. -/
def RdSpt (w : World) (A : Option Addr) (L : List SPT) : Prop := L = [] ∨ ∃ b off, A = some ⟨b, off, none⟩ ∧ ∀ k, k < L.length → ∀ j, j < 4 → w.cell? ⟨b, off + k * 4 + j, none⟩ = (spl (L.getD k ⟨ByteArray.empty, nd0, undef, undef⟩))[j]?
def spt0 : SPT := ⟨ByteArray.empty, nd0, undef, undef⟩
theorem RdSpt.below {w w' : World} {A : Option Addr} {L : List SPT} (h : RdSpt w A L) (hb : Below w.heap.size w w') : RdSpt w' A L := by
  rcases h with h | ⟨b, off, rfl, hc⟩
  · exact .inl h
  · refine .inr ⟨b, off, rfl, fun k hk j hj => ?_⟩
    have e := hc k hk j hj
    obtain ⟨v, hv⟩ : ∃ v, (spl (L.getD k ⟨ByteArray.empty, nd0, undef, undef⟩))[j]? = some v := ⟨_, List.getElem?_eq_getElem (show j < 4 from hj)⟩
    rw [hv] at e ⊢
    exact (hb.cell (p := ⟨b, off + k * 4 + j, none⟩) (World.block_lt_of_cell? w _ e)).trans e
theorem RdSpt.at_ {w : World} {A : Option Addr} {L : List SPT} (h : RdSpt w A L) {k : Nat} (hk : k < L.length) : ∃ b off, A = some ⟨b, off, none⟩ ∧ w.cell? ⟨b, off + k * 4, none⟩ = some (.string (L.getD k spt0).pa) ∧ w.cell? ⟨b, off + k * 4 + 1, none⟩ = some (.string (L.getD k spt0).nd.nm) ∧ w.cell? ⟨b, off + k * 4 + 2, none⟩ = some (L.getD k spt0).y ∧ w.cell? ⟨b, off + k * 4 + 3, none⟩ = some (L.getD k spt0).z := by
  rcases h with rfl | ⟨b, off, rfl, hc⟩
  · simp at hk
  · exact ⟨b, off, rfl, hc k hk 0 (by omega), hc k hk 1 (by omega), hc k hk 2 (by omega), hc k hk 3 (by omega)⟩
/-- The same nodes with the same paths. -/
theorem sp_same {L L2 : List SPT} (h : L.map spP = L2.map spP) : L.length = L2.length ∧ ∀ k, k < L.length → (L.getD k spt0).pa = (L2.getD k spt0).pa ∧ (L.getD k spt0).nd = (L2.getD k spt0).nd := by
  have hl : L.length = L2.length := by have := congrArg List.length h; rwa [List.length_map, List.length_map] at this
  refine ⟨hl, fun k hk => ?_⟩
  have e := congrArg (fun l => l[k]?) h
  simp only [List.getElem?_map] at e
  rw [List.getElem?_eq_getElem hk, List.getElem?_eq_getElem (by omega : k < L2.length)] at e
  have e1 : L.getD k spt0 = L[k] := by rw [List.getD_eq_getElem?_getD, List.getElem?_eq_getElem hk]; rfl
  have e2 : L2.getD k spt0 = L2[k] := by rw [List.getD_eq_getElem?_getD, List.getElem?_eq_getElem (by omega : k < L2.length)]; rfl
  rw [e1, e2]
  simp only [Option.map_some, Option.some.injEq, spP, Prod.mk.injEq] at e
  exact ⟨ByteArray.ext (Array.ext' e.1), e.2⟩
end Go.Proofs.YtfcclppgjfkfoaaGreatDoor

/- What package tree must do, said over nothing of its code; and the awake() of layer 12's statements. Conditions: those contracts. -/
namespace Go.Proofs.YtfcclppgjfkfoaaGreatDoor
open Go.RowKit

/-- The tree that awake() takes. -/
def n12 : ND := .mk ⟨#[]⟩ [⟨⟨#[97]⟩, ⟨#[120]⟩⟩] [.mk ⟨#[98]⟩ [] []]
theorem low12 : LowR n12 = true := by decide +kernel
theorem fits12 : fitsR n12 = true := by decide +kernel
theorem of12 : ofR (tokR 8 n12) = (n12, 0) := of_tokens n12 fits12
theorem len12 : (tokR 8 n12).length = 5 := by rfl
theorem count12 : countR 9 n12 = ⟨2, 1, 2⟩ := by rfl
theorem nil12 : ofR [] = (nd0, 6) := by rfl
theorem lown12 : lowR 12 n12 = true := (low_and low12).1
theorem lown0 : lowR 12 nd0 = true := by decide +kernel
theorem same12 : sameR 20 n12 nd0 = false := by decide +kernel
theorem sm12 : sameR 20 n12 n12 = true := sameR_refl 20 n12

theorem arr_nd {w : World} {g : Nat} {a : ByteArray} {v2 v3 : Value} {t : TypeId} (h : Arr w g t #[.string a, v2, v3]) : w.cell? ⟨g, 0, none⟩ = some (.string a) ∧ w.cell? ⟨g, 1, none⟩ = some v2 ∧ w.cell? ⟨g, 2, none⟩ = some v3 := ⟨h.cell 0, h.cell 1, h.cell 2⟩

end Go.Proofs.YtfcclppgjfkfoaaGreatDoor
