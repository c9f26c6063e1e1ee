/- What edit's allowed returns; what is left where a node's properties, or its kids, have been changed in place. Conditions: names of at most 2^40 bytes. -/
import Derived.Test.YtfcclppgjfkfoaaDoorMg34
import Derived.Test.YtfcclppgjfkfoaaDoorMg36
import Derived.Test.YtfcclppgjfkfoaaDoorMg4
import Derived.Test.YtfcclppgjfkfoaaDoorMg8
import Derived.Deep.QuietTactic
namespace Go.Proofs.YtfcclppgjfkfoaaDoor
open Go.RowKit Go.Maps Go.WideMaps

set_option maxHeartbeats 800000 in
set_option maxRecDepth 100000 in
theorem allowed_any (s : ByteArray) (w : World) (hs : s.size ≤ maxLen) : Calls Tryd.prog 32 #[.string s] w fun e w' => e = .returned (.bool (mayB s)) ∧ Below w.heap.size w w' := by
  obtain ⟨W1, hW1⟩ : ∃ W1, W1 = w.alloc (.cells #[.slice none 0 0, .map none, .int .i64 0] 78) := ⟨_, rfl⟩
  obtain ⟨g, hg⟩ : ∃ g, g = w.heap.size := ⟨_, rfl⟩
  have hB : Below w.heap.size w W1 := by rw [hW1]; exact (Below.refl _ _).alloc (Nat.le_refl _) _
  have hK : BK W1 g (.slice none 0 0) none [] := .inl ⟨rfl, rfl, rfl, by rw [hW1, hg]; exact Arr.new _ _ _⟩
  have hC := sadd_any g (.slice none 0 0) none [] s W1 hK hs (by decide)
  have HC := Lib.hid hC
  have HB := Lib.hid hB
  have HG : Hid (∀ k, fpB g (.slice none 0 0) none k → w.heap.size ≤ k) := fun k hk => by
    rcases hk with hk | hk | hk
    · omega
    · cases hk
    · cases hk
  have HE : Hid (((((addV [] s).2 : Nat) : Int) == 0) = mayB s) := by
    unfold Hid addV
    cases mayB s <;> rfl
  generalize addV [] s = T at *
  obtain ⟨T1, T2⟩ := T
  simp only at HC HE
  clear hB hK hC
  go_enter Tryd.func32, Tryd.ntmps32
  go_upto_region 2 with fail
  change Code.wp _ _ _ _ (w.alloc (.cells #[.slice none 0 0, .map none, .int .i64 0] 78))
  rw [← hW1, ← hg]
  clear hW1 hg
  go_wp2_with fail
  refine HC.out.mono ?_
  rintro e w2 ⟨rfl, v', m', _, hm⟩
  have HF := Lib.hid (HB.out.trans (hm.below (B := w.heap.size) HG.out HB.out.size))
  clear hm HC HG
  go_wp2
  go_ret
  exact ⟨by rw [← HE.out]; rfl, HF.out⟩

/-- A node's properties have been changed. -/
theorem post_props {w w3 : World} {b o lo hi B : Nat} {cur cur' : Array Value} {n : ND} {p q p' : Value} {ps' : List PR} (h : At17 w b o cur lo hi n p q) (hm : Moved w w3 (fun k => k = b ∨ ownS p k) (fun k => k = b ∨ ownS p' k)) (ha : Arr w3 b 25 cur') (hsz : cur'.size = cur.size)
    (hfr : ∀ j, j ≠ o + 1 → cur'[j]? = cur[j]?) (h1 : cur'[o + 1]? = some p') (hrow : w3.ownsRow B 62 2 p' ps'.length (prL ps')) : Post17 w w3 b o cur lo hi (.mk n.nm ps' n.ks, 0) := by
  obtain ⟨harr, hc0, hc1, hc2, hs, hap⟩ := h
  have hG : ∀ k, p'.ownBlock = some k → (lo ≤ k ∧ k < hi) ∨ w.heap.size ≤ k := fun k hk => by
    rcases hm.foot k (.inr hk) with (hf | hf) | hf
    · subst hf
      exact absurd hk (fun e => ow_arr ha hrow (Ne.symm tyPN) e.symm)
    · cases hs with
      | mk _ _ nm ps kl _ _ lw hg hp hq hpb hqb hin hd hpo hqo hk' => exact .inl ⟨(hp.lt k hf).1, hpb k hf⟩
    · exact .inr hf
  cases hs with
  | mk _ _ nm ps kl _ _ lw hg hp hq hpb hqb hin hd hpo hqo hk =>
    have hno : ∀ k, (k = b ∨ ownS p k) → (k = b ∨ (lo ≤ k ∧ k < hi)) := fun k hk' => hk'.imp id fun e => ⟨(hp.lt k e).1, hpb k e⟩
    refine ⟨cur', hm.inside hno (fun _ h => h.elim), ha, hsz, fun j a _ => hfr j a, fun _ => ⟨p', q, h1, by rw [hfr _ (by omega)]; exact hc2, ?_⟩⟩
    obtain ⟨A, pc, rfl, hpr', l1, l2⟩ := rdPr_row (fun k => (lo ≤ k ∧ k < hi) ∨ w.heap.size ≤ k) hrow hG
    refine nd_make (nm := nm) hpr' l1 l2 (ow_moved hq hm fun k hk' hf => ?_) (fun k hk' => .inl ⟨(hq.lt k hk').1, hqb k hk'⟩) (fun c hc => ?_)
    · rcases hf with rfl | hf
      · exact hap ⟨(hq.lt _ hk').1, hqb _ hk'⟩
      · exact apart_types hp hq tyPN k hf hk'
    · obtain ⟨j, hj, rfl⟩ := kd_getD hc
      have hij := hin j hj
      refine (sole_nd ((hk j hj).kept hm fun k a1 a2 hf => ?_)).mono fun k hk' => .inl ⟨by omega, by omega⟩
      rcases hf with rfl | hf
      · exact hap ⟨by omega, by omega⟩
      · exact hpo k j hj hf ⟨a1, a2⟩
/-- A node's kids have been changed. -/
theorem post_kids {w : World} {b o lo hi : Nat} {cur : Array Value} {n : ND} {p q : Value} (h : At17 w b o cur lo hi n p q) : ∃ kl : List KD, kl.map KD.nd = n.ks ∧ w.ownsRow lo 25 3 q kl.length (kdL kl) ∧ (∀ x ∈ kdL kl, x.oneCell' = true) ∧ q.ownBlock ≠ some b ∧
    ∀ (w3 : World) (kl' : List KD) (q' : Value) (cur' : Array Value) (B : Nat), Moved w w3 (fun k => k = b ∨ ownS q k) (fun k => k = b ∨ ownS q' k) → Arr w3 b 25 cur' → cur'.size = cur.size → (∀ j, j ≠ o + 2 → cur'[j]? = cur[j]?) → cur'[o + 2]? = some q' → q'.ownBlock ≠ some b →
      w3.ownsRow B 25 3 q' kl'.length (kdL kl') → (∀ c ∈ kl', c ∈ kl ∨ ∃ nm, c = ⟨.mk nm [] [], .slice none 0 0, .slice none 0 0⟩) → Post17 w w3 b o cur lo hi (.mk n.nm n.ps (kl'.map KD.nd), 0) := by
  obtain ⟨harr, hc0, hc1, hc2, hs, hap⟩ := h
  cases hs with
  | mk _ _ nm ps kl _ _ lw hg hp hq hpb hqb hin hd hpo hqo hk =>
    have hqn : q.ownBlock ≠ some b := fun e => hap ⟨(hq.lt _ e).1, hqb _ e⟩
    refine ⟨kl, rfl, hq, fun x hx => ?_, hqn, fun w3 kl' q' cur' B hm ha hsz hfr h2 hqn' hrow hk' => ?_⟩
    · obtain ⟨c, hc, hx⟩ := List.mem_flatMap.1 hx
      obtain ⟨j, hj, rfl⟩ := kd_getD hc
      obtain ⟨ya, za, yc, zc, e1, e2, _⟩ := nd_shape (sole_nd (hk j hj))
      unfold kdl at hx
      rw [e1, e2] at hx
      simp at hx
      rcases hx with rfl | rfl | rfl <;> rfl
    have hno : ∀ k, (k = b ∨ ownS q k) → (k = b ∨ (lo ≤ k ∧ k < hi)) := fun k hk' => hk'.imp id fun e => ⟨(hq.lt k e).1, hqb k e⟩
    refine ⟨cur', hm.inside hno (fun _ h => h.elim), ha, hsz, fun j _ a => hfr j a, fun _ => ⟨p, q', by rw [hfr _ (by omega)]; exact hc1, h2, ?_⟩⟩
    have hp3 := ow_moved hp hm fun k hk' hf => by
      rcases hf with rfl | hf
      · exact hap ⟨(hp.lt _ hk').1, hpb _ hk'⟩
      · exact apart_types hp hq tyPN k hk' hf
    obtain ⟨A, pc, rfl, hpr', l1, l2⟩ := rdPr_row (fun k => (lo ≤ k ∧ k < hi) ∨ w.heap.size ≤ k) hp3 (fun k hk' => .inl ⟨(hp.lt k hk').1, hpb k hk'⟩)
    refine nd_make (nm := nm) hpr' l1 l2 hrow (fun k hk' => ?_) (fun c hc => ?_)
    · rcases hm.foot k (.inr hk') with (hf | hf) | hf
      · subst hf; exact absurd hk' hqn'
      · exact .inl ⟨(hq.lt k hf).1, hqb k hf⟩
      · exact .inr hf
    · rcases hk' c hc with hc | ⟨nm', rfl⟩
      · obtain ⟨j, hj, rfl⟩ := kd_getD hc
        have hij := hin j hj
        refine (sole_nd ((hk j hj).kept hm fun k a1 a2 hf => ?_)).mono fun k hk' => .inl ⟨by omega, by omega⟩
        rcases hf with rfl | hf
        · exact hap ⟨by omega, by omega⟩
        · exact hqo k j hj hf ⟨a1, a2⟩
      · exact nd_leaf _ _ _
/-- A node's own properties. -/
theorem at_props {w : World} {b o lo hi : Nat} {cur : Array Value} {n : ND} {p q : Value} (h : At17 w b o cur lo hi n p q) : w.ownsRow lo 62 2 p n.ps.length (prL n.ps) ∧ p.ownBlock ≠ some b := by
  obtain ⟨harr, hc0, hc1, hc2, hs, hap⟩ := h
  cases hs with
  | mk _ _ nm ps kl _ _ lw hg hp hq hpb hqb hin hd hpo hqo hk => exact ⟨hp, fun e => hap ⟨(hp.lt _ e).1, hpb _ e⟩⟩
theorem at_shape {w : World} {b o lo hi : Nat} {cur : Array Value} {n : ND} {p q : Value} (h : At17 w b o cur lo hi n p q) : ∃ A K pc kc, p = .slice A n.ps.length pc ∧ q = .slice K n.ks.length kc ∧ w.cell? ⟨b, o, none⟩ = some (.string n.nm) ∧ w.cell? ⟨b, o + 1, none⟩ = some (.slice A n.ps.length pc) ∧ w.cell? ⟨b, o + 2, none⟩ = some (.slice K n.ks.length kc) ∧
    NdAt w (fun k => lo ≤ k ∧ k < hi) n (.slice A n.ps.length pc) (.slice K n.ks.length kc) ∧ w.frozen? ⟨b, o + 1, none⟩ = false ∧ w.frozen? ⟨b, o + 2, none⟩ = false := by
  have hn := sole_nd h.sole
  obtain ⟨A, K, pc, kc, rfl, rfl, _⟩ := nd_shape hn
  exact ⟨A, K, pc, kc, rfl, rfl, by rw [h.arr.cell]; exact h.c0, by rw [h.arr.cell]; exact h.c1, by rw [h.arr.cell]; exact h.c2, hn, h.arr.frozen _, h.arr.frozen _⟩
end Go.Proofs.YtfcclppgjfkfoaaDoor

/- edit's pass, over any function that does a change at a node. Conditions: a tree of one's own of at most 10^6 properties and kids a node; names that are read. -/
namespace Go.Proofs.YtfcclppgjfkfoaaDoor
open Go.RowKit

set_option maxHeartbeats 1600000 in
set_option maxRecDepth 100000 in
theorem pass_nil (w0 : World) (v : Value) (c : CH) (hc : ChangeOk w0 v c) (T : Option Addr) (cap : Nat) (n : ND) (p q : Value) (w : World) (b o : Nat) (cur : Array Value) (lo hi : Nat) (hb : Below w0.heap.size w0 w) (hA : At17 w b o cur lo hi n p q) (hw : wideR 1000000 1 n) :
    Calls Tryd.prog 51 #[.pointer (some ⟨b, o, none⟩), .slice T 0 cap, v] w fun e w' => e = .returned (.int .i64 ((hereR n c).2 : Nat)) ∧ Post17 w w' b o cur lo hi (hereR n c) := by
  obtain ⟨f, caps, rfl, hcf, hcl⟩ := hc
  have HC := Lib.hid (hcl w b o cur lo hi n p q hb hA hw.1 hw.2.1)
  clear hcl hA hw hb
  generalize hereR n c = R at *
  go_enter Tryd.func51, Tryd.ntmps51
  go_wp2_with fail
  refine HC.out.mono ?_
  rintro e w1 ⟨rfl, hp⟩
  have HP := Lib.hid hp
  clear hp HC
  go_wp2
  go_ret
  exact ⟨rfl, HP.out⟩

set_option maxHeartbeats 1600000 in
set_option maxRecDepth 100000 in
theorem pass_cons (w0 : World) (f : FuncId) (caps : Array Value) (c : CH) (s : ByteArray) (L : List ByteArray)
    (hrec : ∀ (T : Option Addr) (cap : Nat) (n : ND) (p q : Value) (w : World) (b o : Nat) (cur : Array Value) (lo hi : Nat), Below w0.heap.size w0 w → At17 w b o cur lo hi n p q → wideR 1000000 (L.length + 1) n → RdT w T L → L.length ≤ cap →
      Calls Tryd.prog 51 #[.pointer (some ⟨b, o, none⟩), .slice T L.length cap, .func (.func f) #[] caps] w fun e w' => e = .returned (.int .i64 ((downR n L c).2 : Nat)) ∧ Post17 w w' b o cur lo hi (downR n L c))
    (T : Option Addr) (cap : Nat) (n : ND) (p q : Value) (w : World) (b o : Nat) (cur : Array Value) (lo hi : Nat) (hb : Below w0.heap.size w0 w) (hA : At17 w b o cur lo hi n p q) (hw : wideR 1000000 (L.length + 1 + 1) n) (hT : RdT w T (s :: L)) (hcap : L.length + 1 ≤ cap) :
    Calls Tryd.prog 51 #[.pointer (some ⟨b, o, none⟩), .slice T (L.length + 1) cap, .func (.func f) #[] caps] w fun e w' => e = .returned (.int .i64 ((downR n (s :: L) c).2 : Nat)) ∧ Post17 w w' b o cur lo hi (downR n (s :: L) c) := by
  obtain ⟨A, K0, pc, kc, rfl, rfl, _, _, c2, hN, _, _⟩ := at_shape hA
  obtain ⟨tb, tof, x, rfl, t0, HX⟩ := hT.at_ (k := 0) (by simp)
  have hx : s = x := HX.out
  subst hx
  have t0 : w.cell? ⟨tb, tof, none⟩ = some (.string s) := t0
  have HRT : Hid (RdT w (if cap = 1 then some ⟨tb, tof, none⟩ else some ⟨tb, tof + 1, none⟩) L) := by
    rcases hT with h | ⟨b', o', e, hcl⟩
    · cases h
    injection e with e
    injection e with e1 e2
    subst e1
    subst e2
    by_cases h1 : cap = 1
    · exact .inl (List.length_eq_zero_iff.1 (by omega))
    · refine .inr ⟨tb, tof + 1, if_neg h1, fun j hj => ?_⟩
      have h := hcl (j + 1) (by rw [List.length_cons]; omega)
      rw [show tof + 1 + j = tof + (j + 1) by omega]
      exact h
  have hwk := hw.2.1
  have HPC := Lib.hid (child_any _ n _ K0 kc b o s w hN (by omega) c2)
  have HA := Lib.hid hA
  have HB := Lib.hid hb
  have HW := Lib.hid hw
  have HREC := Lib.hid hrec
  have d0 : ((L.length : Int) + 1 == 0) = false := by simp; omega
  have hl1 : (0 : Int) < (L.length : Int) + 1 := by omega
  have HTA : Hid (L.length ≤ cap - 1) := by unfold Hid; omega
  clear hA hb hw hrec hN c2 hT
  go_enter Tryd.func51, Tryd.ntmps51
  go_wp2_with fail
  refine HPC.out.mono ?_
  rintro e w2 ⟨⟨r, rfl, hr⟩, hb2⟩
  have HA2 := Lib.hid (HA.out.below hb2)
  rcases ix_kid hr with ⟨rfl, hno⟩ | ⟨i, rfl, hi', hyes, hnm, hrp, _⟩
  · have HE : Hid (downR n (s :: L) c = (nd0, 8)) := by
      unfold Hid
      rw [downR, hno]
    have HF : Hid (Post17 w w2 b o cur lo hi (nd0, 8)) := post_no HA.out hb2 (by decide)
    clear hno hr hb2 HPC HREC HRT t0
    go_wp2
    go_ret
    exact ⟨by rw [HE.out]; rfl, by rw [HE.out]; exact HF.out⟩
  · have hbd : Below w2.heap.size w2 w2.drew := (Below.refl _ _).drew
    have hAd := HA2.out.below hbd
    have hbw : Below w.heap.size w w2.drew := hb2.trans (hbd.mono hb2.size)
    obtain ⟨bq, kc', curq, l', h', y, z, eq, ak, ok1, ok2, ok3⟩ := at_kid hAd hi'
    injection eq with eq1 _ eq3
    subst eq1
    subst eq3
    have hm17 : n.ks.getD i nd0 ∈ n.ks := by
      rw [List.getD_eq_getElem?_getD, List.getElem?_eq_getElem hi']
      exact List.getElem_mem hi'
    have hcall := HREC.out (if cap = 1 then some ⟨tb, tof, none⟩ else some ⟨tb, tof + 1, none⟩) (cap - 1) (n.ks.getD i nd0) y z w2.drew bq (i * 3) curq l' h' (HB.out.trans (hbw.mono HB.out.size)) ak (HW.out.2.2 _ hm17) (HRT.out.below hbw) HTA.out
    have HD : Hid (downR n (s :: L) c = if (downR (n.ks.getD i nd0) L c).2 = 0 then (.mk n.nm n.ps (n.ks.take i ++ (downR (n.ks.getD i nd0) L c).1 :: n.ks.drop (i + 1)), 0) else (nd0, (downR (n.ks.getD i nd0) L c).2)) := by
      unfold Hid
      rw [downR, hyes]
      simp only [hrp]
    have HNM : Hid ((downR (n.ks.getD i nd0) L c).2 = 0 → (downR (n.ks.getD i nd0) L c).1.nm = (n.ks.getD i nd0).nm) := fun h => down_nm h
    have HQ : Hid (Calls Tryd.prog 51 #[.pointer (some ⟨bq, i * 3, none⟩), .slice (if cap = 1 then some ⟨tb, tof, none⟩ else some ⟨tb, tof + 1, none⟩) L.length (cap - 1), .func (.func f) #[] caps] w2.drew fun e w' => e = .returned (.int .i64 ((downR n (s :: L) c).2 : Nat)) ∧ Post17 w w' b o cur lo hi (downR n (s :: L) c) ∧ w'.cell? ⟨b, o + 2, none⟩ = some (.slice (some ⟨bq, 0, none⟩) n.ks.length kc)) := by
      refine hcall.mono ?_
      rintro e w3 ⟨rfl, hp⟩
      have ha3 := ok3 w3 _ hp
      have hcc : w3.cell? ⟨b, o + 2, none⟩ = some (.slice (some ⟨bq, 0, none⟩) n.ks.length kc) := by rw [ha3.cell]; exact hAd.c2
      rw [HD.out]
      by_cases h0 : (downR (n.ks.getD i nd0) L c).2 = 0
      · rw [if_pos h0]
        exact ⟨by rw [h0], (ok1 w3 _ hp h0 (HNM.out h0)).later hbw, hcc⟩
      · rw [if_neg h0]
        exact ⟨rfl, (ok2 w3 _ _ hp h0).later hbw, hcc⟩
    have HS0 : Hid (w2.drew.cell? ⟨b, o + 2, none⟩ = some (.slice (some ⟨bq, 0, none⟩) n.ks.length kc)) := by
      unfold Hid; rw [hAd.arr.cell]; exact hAd.c2
    have d1 : decide ((i : Int) < 0) = false := decide_eq_false (by omega)
    have hii : (i : Int) < (n.ks.length : Int) := by omega
    have h1c : (1 : Int) ≤ (L.length : Int) + 1 := by omega
    clear hcall HD HNM ok1 ok2 ok3 ak hAd HA HA2 HREC HRT HB HW hm17 hyes hnm hrp hr hb2 HPC hbd hbw hi' t0
    go_upto_region 6 with fail
    refine wp_region_held_drew (S := fun (w' : World) => w'.cell? ⟨b, o + 2, none⟩ = some (.slice (some ⟨bq, 0, none⟩) n.ks.length kc)) (by kernel_rfl) (by exact HS0.out) (fun hHeld => ?_)
    refine takeH 0 21 rfl rfl (v := ?_) (by kernel_rfl) (by kernel_rfl) (by kernel_rfl) (fun _ _ _ h => h) (Or.inl ⟨by rfl, ?_⟩) hHeld ?_
    rotate_left 1
    · (intro w hSw; (try dsimp only at hSw); go_simp; try (with_reducible rfl))
    (try simp only [Act.put]); (try simp only [List.setIfInBounds_toArray]); (try simp only [List.set_cons_succ]); (try simp only [List.set_cons_zero])
    refine takeH 1 22 rfl rfl (v := ?_) (by kernel_rfl) (by kernel_rfl) (by kernel_rfl) (fun _ _ _ h => h) (Or.inl ⟨by rfl, ?_⟩) hHeld ?_
    rotate_left 1
    · (intro w hSw; (try dsimp only at hSw); go_simp; try (with_reducible rfl))
    (try simp only [Act.put]); (try simp only [List.setIfInBounds_toArray]); (try simp only [List.set_cons_succ]); (try simp only [List.set_cons_zero])
    refine takeH 2 23 rfl rfl (v := ?_) (by kernel_rfl) (by kernel_rfl) (by kernel_rfl) (fun _ _ _ h => h) (Or.inl ⟨by rfl, ?_⟩) hHeld ?_
    rotate_left 1
    · (intro w hSw; (try dsimp only at hSw); go_simp; try (with_reducible rfl))
    (try simp only [Act.put]); (try simp only [List.setIfInBounds_toArray]); (try simp only [List.set_cons_succ]); (try simp only [List.set_cons_zero])
    refine takeH 3 24 rfl rfl (v := ?_) (by kernel_rfl) (by kernel_rfl) (by kernel_rfl) (fun _ _ _ h => h) (Or.inl ⟨by rfl, ?_⟩) hHeld ?_
    rotate_left 1
    · (intro w hSw; (try dsimp only at hSw); go_simp; try (with_reducible rfl))
    (try simp only [Act.put]); (try simp only [List.setIfInBounds_toArray]); (try simp only [List.set_cons_succ]); (try simp only [List.set_cons_zero])
    refine takeH 4 25 rfl rfl (v := ?_) (by kernel_rfl) (by kernel_rfl) (by kernel_rfl) (fun _ _ _ h => h) (Or.inl ⟨by rfl, ?_⟩) hHeld ?_
    rotate_left 1
    · (intro w hSw; (try dsimp only at hSw); go_simp; try (with_reducible rfl))
    (try simp only [Act.put]); (try simp only [List.setIfInBounds_toArray]); (try simp only [List.set_cons_succ]); (try simp only [List.set_cons_zero])
    refine takeH 5 26 rfl rfl (v := ?_) (by kernel_rfl) (by kernel_rfl) (by kernel_rfl) (fun _ _ _ h => h) (Or.inl ⟨by rfl, ?_⟩) hHeld ?_
    rotate_left 1
    · (intro w hSw; (try dsimp only at hSw); go_simp; try (with_reducible rfl))
    (try simp only [Act.put]); (try simp only [List.setIfInBounds_toArray]); (try simp only [List.set_cons_succ]); (try simp only [List.set_cons_zero])
    refine takeH 6 27 rfl rfl (v := ?_) (by kernel_rfl) (by kernel_rfl) (by kernel_rfl) (fun _ _ _ h => h) (Or.inl ⟨by rfl, ?_⟩) hHeld ?_
    rotate_left 1
    · (intro w hSw; (try dsimp only at hSw); go_simp; try (with_reducible rfl))
    (try simp only [Act.put]); (try simp only [List.setIfInBounds_toArray]); (try simp only [List.set_cons_succ]); (try simp only [List.set_cons_zero])
    refine takeH 7 28 rfl rfl (v := ?_) (by kernel_rfl) (by kernel_rfl) (by kernel_rfl) (fun _ _ _ h => h) (Or.inl ⟨by rfl, ?_⟩) hHeld ?_
    rotate_left 1
    · (intro w hSw; (try dsimp only at hSw); go_simp; try (with_reducible rfl))
    (try simp only [Act.put]); (try simp only [List.setIfInBounds_toArray]); (try simp only [List.set_cons_succ]); (try simp only [List.set_cons_zero])
    refine takeH 8 29 rfl rfl (v := ?_) (by kernel_rfl) (by kernel_rfl) (by kernel_rfl) (fun _ _ _ h => h) (Or.inl ⟨by rfl, ?_⟩) hHeld ?_
    rotate_left 1
    · (intro w hSw; (try dsimp only at hSw); go_simp; try (with_reducible rfl))
    (try simp only [Act.put]); (try simp only [List.setIfInBounds_toArray]); (try simp only [List.set_cons_succ]); (try simp only [List.set_cons_zero])
    refine wpAnyH_ready (rs := [9]) (by kernel_rfl) (by simp) (AllReadyH.cons rfl (fun K hK => ?_) AllReadyH.nil)
    go_simp
    refine HQ.out.mono ?_
    rintro e w3 ⟨rfl, hp, hcc⟩
    (try dsimp only)
    refine hK.out _ _ (by exact hcc) (fun hHeld => ?_)
    clear hK K
    (try simp only [Act.put]); (try simp only [List.setIfInBounds_toArray]); (try simp only [List.set_cons_succ]); (try simp only [List.set_cons_zero])
    refine wpAnyH_ready (rs := [10]) (by kernel_rfl) (by simp) (AllReadyH.cons rfl (fun K hK => ?_) AllReadyH.nil)
    go_simp
    refine hK.out _ _ (by exact hcc) (fun hHeld => ?_)
    clear hK K
    (try simp only [Act.put]); (try simp only [List.setIfInBounds_toArray]); (try simp only [List.set_cons_succ]); (try simp only [List.set_cons_zero])
    refine wpAnyH_done (by kernel_rfl) ?_ _
    have HP := Lib.hid hp
    clear hp hcc hHeld HQ HS0
    generalize (if cap = 1 then some (⟨tb, tof, none⟩ : Addr) else some ⟨tb, tof + 1, none⟩) = TA at *
    go_wp2
    go_ret
    exact ⟨rfl, HP.out⟩

theorem pass_any (w0 : World) (v : Value) (c : CH) (hc : ChangeOk w0 v c) : ∀ (L : List ByteArray) (T : Option Addr) (cap : Nat) (n : ND) (p q : Value) (w : World) (b o : Nat) (cur : Array Value) (lo hi : Nat), Below w0.heap.size w0 w → At17 w b o cur lo hi n p q → wideR 1000000 (L.length + 1) n → RdT w T L → L.length ≤ cap →
    Calls Tryd.prog 51 #[.pointer (some ⟨b, o, none⟩), .slice T L.length cap, v] w fun e w' => e = .returned (.int .i64 ((downR n L c).2 : Nat)) ∧ Post17 w w' b o cur lo hi (downR n L c)
  | [], T, cap, n, p, q, w, b, o, cur, lo, hi, hb, hA, hw, _, _ => pass_nil w0 v c hc T cap n p q w b o cur lo hi hb hA hw
  | s :: L, T, cap, n, p, q, w, b, o, cur, lo, hi, hb, hA, hw, hT, hcap => by
    obtain ⟨f, caps, e, _⟩ := id hc
    have hrec := fun T cap n p q w b o cur lo hi => pass_any w0 v c hc L T cap n p q w b o cur lo hi
    subst e
    exact pass_cons w0 f caps c s L hrec T cap n p q w b o cur lo hi hb hA hw hT hcap
end Go.Proofs.YtfcclppgjfkfoaaDoor
