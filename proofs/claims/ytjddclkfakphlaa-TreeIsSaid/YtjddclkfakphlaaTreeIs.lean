/- The law TreeIs: whatever comes in it returns true. Conditions: the contracts of package tree; two trees that are read. -/
import Derived.Test.YtjddclkfakphlaaTrT
import Derived.Test.YtjddclkfakphlaaTrA
import Derived.Test.YtjddclkfakphlaaTrD
import Derived.Test.YtjddclkfakphlaaTrE
import Derived.Test.YtjddclkfakphlaaTrF
import Derived.Test.YtjddclkfakphlaaTkSC
import Derived.Deep.RegionHeld3
import Derived.Laws.StructEq
import Derived.Deep.DeepCutAuto
namespace Go.Proofs.Ytjddclkfakphlaa
open Go.RowKit

def sp0 : SPT := ⟨ByteArray.empty, nd0, undef, undef⟩
theorem row_rdSpt {w : World} {base : Nat} {v : Value} {L : List SPT} (h : w.ownsRow base 40 4 v L.length (spL L)) : ∃ A cap, v = .slice A L.length cap ∧ RdSpt w A L := by
  obtain ⟨A, cap, rfl, _, _, hx⟩ := row_form h
  refine ⟨A, cap, rfl, ?_⟩
  rcases hx with hx | ⟨b, rfl, _, hc⟩
  · exact .inl (List.length_eq_zero_iff.1 hx)
  · refine .inr ⟨b, 0, rfl, fun k hk j hj => ?_⟩
    rw [Nat.zero_add, hc _ (by omega)]
    exact flat_at (f := spl) (fun _ => rfl) _ L hk hj
theorem RdSpt.below {w w' : World} {A : Option Addr} {L : List SPT} (h : RdSpt w A L) (hb : Below w.heap.size w w') : RdSpt w' A L := by
  rcases h with h | ⟨b, off, rfl, hc⟩
  · exact .inl h
  · refine .inr ⟨b, off, rfl, fun k hk j hj => ?_⟩
    have e := hc k hk j hj
    obtain ⟨v, hv⟩ : ∃ v, (spl (L.getD k ⟨ByteArray.empty, nd0, undef, undef⟩))[j]? = some v := ⟨_, List.getElem?_eq_getElem (show j < 4 from hj)⟩
    rw [hv] at e ⊢
    exact (hb.cell (p := ⟨b, off + k * 4 + j, none⟩) (World.block_lt_of_cell? w _ e)).trans e
theorem RdSpt.at_ {w : World} {A : Option Addr} {L : List SPT} (h : RdSpt w A L) {k : Nat} (hk : k < L.length) : ∃ b off, A = some ⟨b, off, none⟩ ∧ w.cell? ⟨b, off + k * 4, none⟩ = some (.string (L.getD k sp0).pa) ∧ w.cell? ⟨b, off + k * 4 + 1, none⟩ = some (.string (L.getD k sp0).nd.nm) ∧ w.cell? ⟨b, off + k * 4 + 2, none⟩ = some (L.getD k sp0).y ∧ w.cell? ⟨b, off + k * 4 + 3, none⟩ = some (L.getD k sp0).z := by
  rcases h with rfl | ⟨b, off, rfl, hc⟩
  · simp at hk
  · exact ⟨b, off, rfl, hc k hk 0 (by omega), hc k hk 1 (by omega), hc k hk 2 (by omega), hc k hk 3 (by omega)⟩
/-- The same nodes with the same paths. -/
theorem sp_same {L L2 : List SPT} (h : L.map spP = L2.map spP) : L.length = L2.length ∧ ∀ k, k < L.length → (L.getD k sp0).pa = (L2.getD k sp0).pa ∧ (L.getD k sp0).nd = (L2.getD k sp0).nd := by
  have hl : L.length = L2.length := by have := congrArg List.length h; rwa [List.length_map, List.length_map] at this
  refine ⟨hl, fun k hk => ?_⟩
  have e := congrArg (fun l => l[k]?) h
  simp only [List.getElem?_map] at e
  rw [List.getElem?_eq_getElem hk, List.getElem?_eq_getElem (by omega : k < L2.length)] at e
  have e1 : L.getD k sp0 = L[k] := by rw [List.getD_eq_getElem?_getD, List.getElem?_eq_getElem hk]; rfl
  have e2 : L2.getD k sp0 = L2[k] := by rw [List.getD_eq_getElem?_getD, List.getElem?_eq_getElem (by omega : k < L2.length)]; rfl
  rw [e1, e2]
  simp only [Option.map_some, Option.some.injEq, spP, Prod.mk.injEq] at e
  exact ⟨ByteArray.ext (Array.ext' e.1), e.2⟩

theorem eq3_at (d : Nat) (x : Nat → Int) (W : World) : (Op.equalIn (d + 2) 33 (.agg #[.int .i64 (x 0), .int .i64 (x 1), .int .i64 (x 2)]) (.agg #[.int .i64 (x 0), .int .i64 (x 1), .int .i64 (x 2)])).run Try.prog W = .ok true W := by
  have hs : ∀ W, (sizeOf 3).run Try.prog W = .ok 1 W := Try.sizeOf3
  rw [Op.equalIn]
  simp only [Sem.run_bind, run_underlying Try.underlying33, Result.andThen_ok, hs, Std.Legacy.Range.forIn_eq_forIn_range', Std.Legacy.Range.size, Nat.sub_zero, Nat.add_sub_cancel, Nat.div_one]
  have hl : ∀ i ∈ List.range' 0 3 1, i < 3 := fun i hi => by simpa using (List.mem_range'_1.1 hi).2
  generalize List.range' 0 3 1 = l at hl ⊢
  induction l with
  | nil => simp
  | cons i l ih =>
    have hi : i < 3 := hl i (by simp)
    have px : (part 3 #[.int .i64 (x 0), .int .i64 (x 1), .int .i64 (x 2)] (i * 1)).run Try.prog W = .ok (.int .i64 (x i)) W := by
      match i, hi with
      | 0, _ => simp [part, isAgg, run_underlying Try.underlying3]
      | 1, _ => simp [part, isAgg, run_underlying Try.underlying3]
      | 2, _ => simp [part, isAgg, run_underlying Try.underlying3]
    have pe : (Op.equalIn (d + 1) 3 (.int .i64 (x i)) (.int .i64 (x i))).run Try.prog W = .ok true W := by
      rw [run_equalIn_int W d 3 .i64 .i64 (x i) (x i) Try.underlying3, beq_self_eq_true]
    simp only [List.forIn_cons, Sem.run_bind, px, pe, Result.andThen_ok]
    simp only [Bool.not_true, Bool.false_eq_true, if_false, Sem.run_pure, Result.andThen_ok]
    exact ih fun j hj => hl j (by simp [hj])
theorem eq3 (a b c : Int) (W : World) : (Op.equalIn 10000 33 (.agg #[.int .i64 a, .int .i64 b, .int .i64 c]) (.agg #[.int .i64 a, .int .i64 b, .int .i64 c])).run Try.prog W = .ok true W := eq3_at 9998 (fun k => if k = 0 then a else if k = 1 then b else c) W

set_option maxHeartbeats 3200000 in
set_option maxRecDepth 100000 in
theorem treeIs_any (M : TreeMust) (n m : ND) (v2 v3 u2 u3 : Value) (w : World) (hn : NdAt w (fun k => k < w.heap.size) n v2 v3) (hm : NdAt w (fun k => k < w.heap.size) m u2 u3) :
    Calls Try.prog 3 #[.agg #[.string n.nm, v2, v3], .agg #[.string m.nm, u2, u3]] w fun e w' => e = .returned (.bool true) ∧ Below w.heap.size w w' := by
  have HAW := Lib.hid (awake12 M)
  obtain ⟨W1, hW1⟩ : ∃ W1, W1 = (w.alloc (.cells #[.string n.nm, v2, v3] 25)).alloc (.cells #[.string m.nm, u2, u3] 25) := ⟨_, rfl⟩
  obtain ⟨g2, hg2⟩ : ∃ g2, g2 = w.heap.size := ⟨_, rfl⟩
  obtain ⟨g3, hg3⟩ : ∃ g3, g3 = w.heap.size + 1 := ⟨_, rfl⟩
  have hb1 : Below w.heap.size w W1 := by rw [hW1]; exact ((Below.refl _ _).alloc (Nat.le_refl _) _).alloc (by rw [sz_alloc]; omega) _
  have hv1 : Arr W1 g2 25 #[.string n.nm, v2, v3] := by rw [hW1, hg2]; exact (Arr.new w _ _).alloc _
  have hu1 : Arr W1 g3 25 #[.string m.nm, u2, u3] := by rw [hW1, hg3]; exact Arr.new1 w _ _ _
  have HV := Lib.hid hv1
  have HU := Lib.hid hu1
  have HB := Lib.hid hb1
  have HN := Lib.hid (nd_below hn hb1)
  have HM := Lib.hid (nd_below hm hb1)
  have HLN := Lib.hid (fun W h => rLow_any (fun k => k < w.heap.size) n v2 v3 W h)
  have HLM := Lib.hid (fun W h => rLow_any (fun k => k < w.heap.size) m u2 u3 W h)
  clear hb1 hv1 hu1 hn hm
  cases hlow : LowR n with
  | false =>
    rw [hlow] at HLN
    clear M hlow HLM
    go_enter Try.func3, Try.ntmps3
    go_upto_region 1 with fail
    rw [← hW1, ← hg3, ← hg2]
    clear hW1 hg2 hg3
    obtain ⟨c0, c1, c2⟩ := arr_nd HV.out
    go_wp2_with fail
    refine (HLN.out _ HN.out).mono ?_
    rintro e w1 ⟨rfl, hb⟩
    have HB := Lib.hid (HB.out.trans (hb.mono HB.out.size))
    clear hb c0 c1 c2
    go_wp2_with fail
    refine (HAW.out _).mono ?_
    rintro e w1 ⟨rfl, hb⟩
    have HB := Lib.hid (HB.out.trans (hb.mono HB.out.size))
    clear hb
    go_wp2
    go_ret
    exact ⟨rfl, HB.out⟩
  | true =>
    rw [hlow] at HLN
    cases hlm : LowR m with
    | false =>
      rw [hlm] at HLM
      clear M hlow hlm
      go_enter Try.func3, Try.ntmps3
      go_upto_region 1 with fail
      rw [← hW1, ← hg3, ← hg2]
      clear hW1 hg2 hg3
      obtain ⟨c0, c1, c2⟩ := arr_nd HV.out
      go_wp2_with fail
      refine (HLN.out _ HN.out).mono ?_
      rintro e w1 ⟨rfl, hb⟩
      have HM := Lib.hid (nd_below HM.out hb)
      have HU := Lib.hid (HU.out.below hb HU.out.lt)
      have HB := Lib.hid (HB.out.trans (hb.mono HB.out.size))
      clear hb c0 c1 c2
      obtain ⟨c0, c1, c2⟩ := arr_nd HU.out
      go_wp2_with fail
      refine (HLM.out _ HM.out).mono ?_
      rintro e w1 ⟨rfl, hb⟩
      have HB := Lib.hid (HB.out.trans (hb.mono HB.out.size))
      clear hb c0 c1 c2
      go_wp2_with fail
      refine (HAW.out _).mono ?_
      rintro e w1 ⟨rfl, hb⟩
      have HB := Lib.hid (HB.out.trans (hb.mono HB.out.size))
      clear hb
      go_wp2
      go_ret
      exact ⟨rfl, HB.out⟩
    | true =>
      rw [hlm] at HLM
      have hsz := sz_of_low hlow
      obtain ⟨b1, b2, b3, b4⟩ := sz_count hsz
      have HCO := Lib.hid (fun W h => M.count (fun k => k < w.heap.size) n v2 v3 W hsz h)
      have HTO := Lib.hid (fun W h => M.tokens (fun k => k < w.heap.size) n v2 v3 W hsz h)
      have HRT := Lib.hid (fun W h => rTokens_any (fun k => k < w.heap.size) n v2 v3 W (by omega) h)
      have HRC := Lib.hid (fun W h => rCount_any (fun k => k < w.heap.size) n v2 v3 W (by omega) (by omega) h)
      have HFI := Lib.hid (fun W h => M.fits (fun k => k < w.heap.size) n v2 v3 W hsz h)
      have HRF := Lib.hid (fun W h => rFits_any (fun k => k < w.heap.size) n v2 v3 W (by omega) (by omega) h)
      have HSA := Lib.hid (fun W h h' => M.same (fun k => k < w.heap.size) (fun k => k < w.heap.size) n m v2 v3 u2 u3 W (low_and hlow).1 (low_and hlm).1 h h')
      have HRS := Lib.hid (fun W h h' => rSame_any (fun k => k < w.heap.size) (fun k => k < w.heap.size) n m v2 v3 u2 u3 W h h')
      have HCP := Lib.hid (fun W h => M.copy (fun k => k < w.heap.size) n v2 v3 W hsz h)
      have HSC := Lib.hid (fun (G2 : Nat → Prop) x2 x3 W h h' => rSame_any G2 (fun k => k < w.heap.size) n n x2 x3 v2 v3 W h h')
      rw [sameR_refl] at HSC
      have HWK := Lib.hid (fun W h => M.walk (fun k => k < w.heap.size) n v2 v3 W hlow h)
      have HRW := Lib.hid (fun W (h : NdAt W (fun b => b < w.heap.size) n v2 v3) h' => rWalk_any w.heap.size n v2 v3 W (nm_of_low 8 12 n (low_and hlow).1) (by omega) h h')
      have HKS := Lib.hid (fun A A' cap cap' W h1 h2 => sameTk_any A A' cap cap' (tokR 8 n) W (by omega) h1 h2)
      have HSQ := Lib.hid (fun (x : ND) (G1 G2 : Nat → Prop) x2 x3 y2 y3 W h h' => (rSame_any G1 G2 x x x2 x3 y2 y3 W h h').mono fun e w' q => by rw [sameR_refl] at q; exact q)
      have HWL : Hid ((walkR 8 [47] n).length ≤ 400) := by unfold Hid; rw [walk_len]; exact b3
      clear M hlow hlm hsz b1 b2 b3 b4
      generalize tokR 8 n = T at *
      generalize fitsR n = bf at *
      generalize sameR 20 n m = bs at *
      generalize countR 9 n = ct at *
      obtain ⟨ca, cb, cc⟩ := ct
      simp only [c3V] at HCO HRC
      go_enter Try.func3, Try.ntmps3
      go_upto_region 1 with fail
      rw [← hW1, ← hg3, ← hg2]
      clear hW1 hg2 hg3
      obtain ⟨c0, c1, c2⟩ := arr_nd HV.out
      go_wp2_with fail
      refine (HLN.out _ HN.out).mono ?_
      rintro e w1 ⟨rfl, hb⟩
      have HN := Lib.hid (nd_below HN.out hb)
      have HM := Lib.hid (nd_below HM.out hb)
      have HV := Lib.hid (HV.out.below hb HV.out.lt)
      have HU := Lib.hid (HU.out.below hb HU.out.lt)
      have HB := Lib.hid (HB.out.trans (hb.mono HB.out.size))
      clear hb c0 c1 c2
      obtain ⟨c0, c1, c2⟩ := arr_nd HU.out
      go_wp2_with fail
      refine (HLM.out _ HM.out).mono ?_
      rintro e w2 ⟨rfl, hb⟩
      have HN := Lib.hid (nd_below HN.out hb)
      have HM := Lib.hid (nd_below HM.out hb)
      have HV := Lib.hid (HV.out.below hb HV.out.lt)
      have HU := Lib.hid (HU.out.below hb HU.out.lt)
      have HB := Lib.hid (HB.out.trans (hb.mono HB.out.size))
      clear hb c0 c1 c2
      obtain ⟨c0, c1, c2⟩ := arr_nd HV.out
      go_wp2_with fail
      refine (HCO.out _ HN.out).mono ?_
      rintro e w3 ⟨rfl, hb⟩
      have HN := Lib.hid (nd_below HN.out hb)
      have HM := Lib.hid (nd_below HM.out hb)
      have HV := Lib.hid (HV.out.below hb HV.out.lt)
      have HU := Lib.hid (HU.out.below hb HU.out.lt)
      have HB := Lib.hid (HB.out.trans (hb.mono HB.out.size))
      clear hb c0 c1 c2
      go_upto_region 4 with fail
      clear HLN HLM HCO
      have hN3 := HN.out
      have HKP : Hid (∀ W', Below w3.heap.size w3 W' → (fun (w' : World) => w'.cell? ⟨g2, 0, none⟩ = some (.string n.nm) ∧ w'.cell? ⟨g2, 1, none⟩ = some v2 ∧ w'.cell? ⟨g2, 2, none⟩ = some v3 ∧ w'.cell? ⟨g3, 0, none⟩ = some (.string m.nm) ∧ w'.cell? ⟨g3, 1, none⟩ = some u2 ∧ w'.cell? ⟨g3, 2, none⟩ = some u3 ∧ Below w3.heap.size w3 w') W') := fun W' h => by
        obtain ⟨d0, d1, d2⟩ := arr_nd (HV.out.below h HV.out.lt)
        obtain ⟨e0, e1, e2⟩ := arr_nd (HU.out.below h HU.out.lt)
        exact ⟨d0, d1, d2, e0, e1, e2, h⟩
      have hBc : Below w3.heap.size w3 w3.drew := (Below.refl _ _).drew
      clear hN3
      have hEQ := eq3 (ca : Int) (cb : Int) (cc : Int)
      go_cut [63] (fun s63 wx => s63 = .bool false ∧ Below w3.heap.size w3 wx)
      case first =>
        go_region_held3 (fun (w' : World) => w'.cell? ⟨g2, 0, none⟩ = some (.string n.nm) ∧ w'.cell? ⟨g2, 1, none⟩ = some v2 ∧ w'.cell? ⟨g2, 2, none⟩ = some v3 ∧ w'.cell? ⟨g3, 0, none⟩ = some (.string m.nm) ∧ w'.cell? ⟨g3, 1, none⟩ = some u2 ∧ w'.cell? ⟨g3, 2, none⟩ = some u3 ∧ Below w3.heap.size w3 w') (exact HKP.out _ hBc) (first | (go_at_call 10; refine (HTO.out _ (nd_below HN.out hBc)).mono ?_; rintro e wz ⟨A1, cp1, rfl, q1, _, _, hb⟩; (try (have q2 := RdTk.below q2 hb)); have hBc := hBc.trans (hb.mono hBc.size)) | (go_at_call 11; refine (HRT.out _ (nd_below HN.out hBc)).mono ?_; rintro e wz ⟨vv, rfl, ho, hb⟩; obtain ⟨A2, cp2, rfl, q2⟩ := row_rdTk ho; (try (have q1 := RdTk.below q1 hb)); have hBc := hBc.trans (hb.mono hBc.size)) | (go_at_call 9; refine (HKS.out _ _ _ _ _ q1 q2).mono ?_; rintro e wz ⟨rfl, hb⟩; have hBc := hBc.trans (hb.mono hBc.size)) | (go_at_call 12; refine (HRC.out _ (nd_below HN.out hBc)).mono ?_; rintro e wz ⟨rfl, hb⟩; have hBc := hBc.trans (hb.mono hBc.size)) | (go_at_call 13; refine (HFI.out _ (nd_below HN.out hBc)).mono ?_; rintro e wz ⟨rfl, hb⟩; have hBc := hBc.trans (hb.mono hBc.size)) | (go_at_call 14; refine (HRF.out _ (nd_below HN.out hBc)).mono ?_; rintro e wz ⟨rfl, hb⟩; have hBc := hBc.trans (hb.mono hBc.size)) | (go_at_call 15; refine (HSA.out _ (nd_below HN.out hBc) (nd_below HM.out hBc)).mono ?_; rintro e wz ⟨rfl, hb⟩; have hBc := hBc.trans (hb.mono hBc.size)) | (go_at_call 17; refine (HCP.out _ (nd_below HN.out hBc)).mono ?_; rintro e wz ⟨x2, x3, rfl, q5, hb⟩; have hBc := hBc.trans (hb.mono hBc.size)) | (go_at_call 16; first | (refine (HRS.out _ (nd_below HN.out hBc) (nd_below HM.out hBc)).mono ?_; rintro e wz ⟨rfl, hb⟩; have hBc := hBc.trans (hb.mono hBc.size)) | (refine (HSC.out _ _ _ _ q5 (nd_below HN.out hBc)).mono ?_; rintro e wz ⟨rfl, hb⟩; have hBc := hBc.trans (hb.mono hBc.size))))
        all_goals (go_wp2_with fail; go_meet; exact ⟨rfl, hBc⟩)
      case rest => as_aux_lemma =>
        obtain ⟨rfl, hb3⟩ := hcut
        have HN := Lib.hid (nd_below HN.out hb3)
        have HV := Lib.hid (HV.out.below hb3 HV.out.lt)
        have HB := Lib.hid (HB.out.trans (hb3.mono HB.out.size))
        clear hb3 hBc hEQ HKP HM HU HTO HRT HRC HFI HRF HSA HRS HCP HSC HKS
        go_upto_region 6 with fail
        have HKP : Hid (∀ W', Below wc.heap.size wc W' → (fun (w' : World) => w'.cell? ⟨g2, 0, none⟩ = some (.string n.nm) ∧ w'.cell? ⟨g2, 1, none⟩ = some v2 ∧ w'.cell? ⟨g2, 2, none⟩ = some v3 ∧ Below wc.heap.size wc w') W') := fun W' h => by
          obtain ⟨d0, d1, d2⟩ := arr_nd (HV.out.below h HV.out.lt)
          exact ⟨d0, d1, d2, h⟩
        have hBc : Below wc.heap.size wc wc.drew := (Below.refl _ _).drew
        have HZ := Lib.hid HB.out.size
        go_cut [8, 9] (fun s8 s9 wx => ∃ A1 c1 L1 A2 c2 L2, s8 = .slice A1 L1.length c1 ∧ s9 = .slice A2 L1.length c2 ∧ RdSpt wx A1 L1 ∧ RdSpt wx A2 L2 ∧ L1.map spP = L2.map spP ∧ (∀ s ∈ L1, NdAt wx (fun _ => True) s.nd s.y s.z) ∧ (∀ s ∈ L2, NdAt wx (fun _ => True) s.nd s.y s.z) ∧ L1.length ≤ 400 ∧ Below wc.heap.size wc wx)
        case first =>
          go_region_held3 (fun (w' : World) => w'.cell? ⟨g2, 0, none⟩ = some (.string n.nm) ∧ w'.cell? ⟨g2, 1, none⟩ = some v2 ∧ w'.cell? ⟨g2, 2, none⟩ = some v3 ∧ Below wc.heap.size wc w') (exact HKP.out _ hBc) (first | (go_at_call 18; refine (HWK.out _ (nd_below HN.out hBc)).mono ?_; rintro e wz ⟨A1, c1, L1, rfl, q1, qm1, qn1, hb⟩; (try (have q2 := RdSpt.below q2 hb)); (try (have qn2 := fun s hs => nd_below (qn2 s hs) hb)); have hBc := hBc.trans (hb.mono hBc.size)) | (go_at_call 19; refine (HRW.out _ (nd_below HN.out hBc) (Nat.le_trans HZ.out hBc.size)).mono ?_; rintro e wz ⟨vv, L2, rfl, ho, qm2, qn2, hb⟩; obtain ⟨A2, c2, rfl, q2⟩ := row_rdSpt ho; (try (have q1 := RdSpt.below q1 hb)); (try (have qn1 := fun s hs => nd_below (qn1 s hs) hb)); have hBc := hBc.trans (hb.mono hBc.size)))
          all_goals (go_wp2_with fail; go_meet; exact ⟨A1, c1, L1, A2, c2, L2, rfl, by rw [(sp_same (qm1.trans qm2.symm)).1], q1, q2, qm1.trans qm2.symm, fun s hs => (qn1 s hs).mono (fun _ _ => trivial), fun s hs => (qn2 s hs).mono (fun _ _ => trivial), (by have h := congrArg List.length qm1; rw [List.length_map] at h; rw [h]; exact HWL.out), hBc⟩)
        case rest => as_aux_lemma =>
          obtain ⟨A1, c1, L1, A2, c2, L2, rfl, rfl, q1, q2, qm, qn1, qn2, h400, hb⟩ := hcut
          have HB := Lib.hid (HB.out.trans (hb.mono HB.out.size))
          have HQ1 := Lib.hid q1
          have HQ2 := Lib.hid q2
          have HQN1 := Lib.hid qn1
          have HQN2 := Lib.hid qn2
          have HQM := Lib.hid (sp_same qm)
          clear q1 q2 qn1 qn2 qm hb hBc HKP HZ HN HV HWK HRW
          obtain ⟨N, hN⟩ : ∃ N, N = L1.length := ⟨_, rfl⟩
          rw [← hN]
          rw [← hN] at h400
          have HL1 := Lib.hid hN
          have HL2 : Hid (N = L2.length) := hN.trans HQM.out.1
          clear hN
          go_wp2
          go_loopw [10] (fun i wr => ∃ k : Nat, k ≤ N ∧ i = .int .i64 k ∧ Below wc.heap.size wc wr) (fun i _ => N - (intOf i).toNat)
          case atStart => exact ⟨0, Nat.zero_le _, rfl, Below.refl _ _⟩
          case round =>
            obtain ⟨k, hk, rfl, hb⟩ := hrel
            have HBR := Lib.hid hb
            by_cases hlt : k < N
            · have hki : (k : Int) < (N : Int) := by omega
              have hk1 : k < L1.length := by rw [← HL1.out]; exact hlt
              have hk2 : k < L2.length := by rw [← HL2.out]; exact hlt
              have hm1 := getD_mem (d := sp0) hk1
              have hm2 := getD_mem (d := sp0) hk2
              have hn1 := HQN1.out _ hm1
              have hn2 := HQN2.out _ hm2
              obtain ⟨b, off, rfl, x0, x1, x2, x3⟩ := (HQ1.out.below hb).at_ hk1
              obtain ⟨b', off', rfl, y0, y1, y2, y3⟩ := (HQ2.out.below hb).at_ hk2
              obtain ⟨hpa, hnd⟩ := HQM.out.2 k hk1
              generalize L1.getD k sp0 = s1 at *
              generalize L2.getD k sp0 = s2 at *
              obtain ⟨pa, nd, ya, za⟩ := s1
              obtain ⟨pb, nb, yb, zb⟩ := s2
              simp only at hpa hnd x0 x1 x2 x3 y0 y1 y2 y3 hn1 hn2
              subst hpa
              subst hnd
              have HN1 := Lib.hid (nd_below hn1 hb)
              have HN2 := Lib.hid (nd_below hn2 hb)
              clear hm1 hm2 hn1 hn2 hk1 hk2 hb
              have HKP : Hid (∀ W', Below wr.heap.size wr W' → (fun (w' : World) => w'.cell? ⟨b, off + k * 4, none⟩ = some (.string pa) ∧ w'.cell? ⟨b, off + k * 4 + 1, none⟩ = some (.string nd.nm) ∧ w'.cell? ⟨b, off + k * 4 + 2, none⟩ = some ya ∧ w'.cell? ⟨b, off + k * 4 + 3, none⟩ = some za ∧ w'.cell? ⟨b', off' + k * 4, none⟩ = some (.string pa) ∧ w'.cell? ⟨b', off' + k * 4 + 1, none⟩ = some (.string nd.nm) ∧ w'.cell? ⟨b', off' + k * 4 + 2, none⟩ = some yb ∧ w'.cell? ⟨b', off' + k * 4 + 3, none⟩ = some zb ∧ Below wr.heap.size wr w') W') := fun W' h =>
                have M := Moved.of_below h (fun _ => False)
                ⟨cell_kept M id x0, cell_kept M id x1, cell_kept M id x2, cell_kept M id x3, cell_kept M id y0, cell_kept M id y1, cell_kept M id y2, cell_kept M id y3, h⟩
              have hBc : Below wr.heap.size wr wr.drew := (Below.refl _ _).drew
              go_upto_region 12 with fail
              go_region_held3 (fun (w' : World) => w'.cell? ⟨b, off + k * 4, none⟩ = some (.string pa) ∧ w'.cell? ⟨b, off + k * 4 + 1, none⟩ = some (.string nd.nm) ∧ w'.cell? ⟨b, off + k * 4 + 2, none⟩ = some ya ∧ w'.cell? ⟨b, off + k * 4 + 3, none⟩ = some za ∧ w'.cell? ⟨b', off' + k * 4, none⟩ = some (.string pa) ∧ w'.cell? ⟨b', off' + k * 4 + 1, none⟩ = some (.string nd.nm) ∧ w'.cell? ⟨b', off' + k * 4 + 2, none⟩ = some yb ∧ w'.cell? ⟨b', off' + k * 4 + 3, none⟩ = some zb ∧ Below wr.heap.size wr w') (exact HKP.out _ hBc) (first | (go_at_call 16; refine (HSQ.out nd _ _ _ _ _ _ _ (nd_below HN1.out hBc) (nd_below HN2.out hBc)).mono ?_; rintro e wz ⟨rfl, hb⟩; have hBc := hBc.trans (hb.mono hBc.size)))
              all_goals (
                have HB2 := Lib.hid (HBR.out.trans (hBc.mono HBR.out.size))
                clear hBc HKP x0 x1 x2 x3 y0 y1 y2 y3 HN1 HN2
                go_wp2
                go_roundw
                case rel => exact ⟨k + 1, by omega, by go_num, HB2.out⟩
                case measure => simp [intOf]; omega)
            · obtain rfl : k = N := by omega
              have HB := Lib.hid (HB.out.trans (HBR.out.mono HB.out.size))
              clear hb HBR
              go_wp2_with fail
              refine (HAW.out _).mono ?_
              rintro e w7 ⟨rfl, hb⟩
              have HB := Lib.hid (HB.out.trans (hb.mono HB.out.size))
              clear hb
              go_wp2
              go_ret
              exact ⟨rfl, HB.out⟩
end Go.Proofs.Ytjddclkfakphlaa
