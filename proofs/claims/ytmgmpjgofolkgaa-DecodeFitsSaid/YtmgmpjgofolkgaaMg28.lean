/- The document's Tree of layer 14. Conditions: strings of at most 2^40 bytes. -/
import Derived.Test.YtmgmpjgofolkgaaMg10
import Derived.Test.YtmgmpjgofolkgaaMg11
import Derived.Test.YtmgmpjgofolkgaaMg17
import Derived.Test.YtmgmpjgofolkgaaMg26
import Derived.Test.YtmgmpjgofolkgaaMg27
namespace Go.Proofs.Ytmgmpjgofolkgaa
open Go.RowKit

theorem rdSp_row {w : World} {A : Option Addr} {L : List SP} {B g : Nat} {cs : Array Value} (h : RdSp w A L) (hf : SpFar B A L) (hg : g < B) : RdSp (w.setRow g cs) A L := by
  rcases h with h | ⟨b, off, rfl, hc⟩
  · exact .inl h
  · rcases hf with h | ⟨b', off', e, hb⟩
    · exact .inl h
    · injection e with e
      injection e with e1 e2
      subst e1
      refine .inr ⟨b, off, rfl, fun k hk => ?_⟩
      obtain ⟨h1, h2⟩ := hc k hk
      have hlt : b < w.heap.size := World.block_lt_of_cell? w _ h1
      have e : ∀ j, (w.setRow g cs).cell? ⟨b, j, none⟩ = w.cell? ⟨b, j, none⟩ := fun j => World.cell?_of_block (a := ⟨b, j, none⟩) ((moved_setRow w g cs).block b hlt (fun he => by omega))
      exact ⟨by rw [e]; exact h1, by rw [e]; exact h2⟩
/-- A tree's cells: the root, what is reserved, the processor. -/
abbrev dtC (nm : ByteArray) (v2 v3 r : Value) (b : Int) : Array Value := #[.string nm, v2, v3, r, .int .i64 b]
abbrev hdZ : Array Value := #[.int .i64 0, .int .i64 0, .int .i64 0, .int .i64 0, .int .i64 0, .int .i64 0, .int .i64 0]
abbrev dtZ : Array Value := #[.string ⟨#[]⟩, .slice none 0 0, .slice none 0 0, .slice none 0 0, .int .i64 0]
theorem infoDt (nm : ByteArray) (v2 v3 r : Value) (b : Int) : (Try.prog.info? 29).map (·.size) = some (dtC nm v2 v3 r b).size := by
  show _ = some 5
  kernel_rfl
theorem infoDz : (Try.prog.info? 29).map (·.size) = some dtZ.size := by
  show _ = some 5
  kernel_rfl
theorem dtZ_one : dtZ.all (·.oneCell') = true := by
  rw [Array.all_eq_true_iff_forall_mem]
  intro v hv
  simp at hv
  rcases hv with rfl | rfl | rfl | rfl | rfl <;> rfl
theorem dtC_one (nm : ByteArray) (v2 v3 r : Value) (b : Int) (h2 : v2.oneCell' = true) (h3 : v3.oneCell' = true) (h4 : r.oneCell' = true) : (dtC nm v2 v3 r b).all (·.oneCell') = true := by
  simp [h2, h3, h4]
  exact ⟨rfl, rfl⟩
/-- The tree T lies in memory. -/
def DtAt (w : World) (T : DT) (v2 v3 : Value) (A : Option Addr) : Prop := NdAt w (fun k => k < w.heap.size) T.rt v2 v3 ∧ RdSp w A T.rs
theorem DtAt.below {w w' : World} {T : DT} {v2 v3 : Value} {A : Option Addr} (h : DtAt w T v2 v3 A) (hb : Below w.heap.size w w') : DtAt w' T v2 v3 A :=
  ⟨(nd_below h.1 hb).mono fun _ hk => Nat.lt_of_lt_of_le hk hb.size, h.2.below hb⟩
theorem dtAt_zero (w : World) : DtAt w dt0 (.slice none 0 0) (.slice none 0 0) none := ⟨nd0_at _ _, .inl rfl⟩

theorem partR_le (s : ByteArray) (a b : Int) {n : Nat} (h : s.size ≤ n) : (partR s a b).1.size ≤ n := by
  unfold partR
  split
  · exact Nat.zero_le _
  · show (s.extract _ _).size ≤ n
    rw [ByteArray.size_extract]; omega

set_option maxHeartbeats 3200000 in
set_option maxRecDepth 100000 in
theorem rTree_any (s : ByteArray) (w : World) (hs : s.size ≤ 1099511627776) :
    Calls Try.prog 7 #[.string s] w fun e w' => ∃ v2 v3 A cap, e = .returned (.tuple #[.agg (dtC (treeD s.data.toList).1.rt.nm v2 v3 (.slice A (treeD s.data.toList).1.rs.length cap) (treeD s.data.toList).1.bo), .int .i64 ((treeD s.data.toList).2 : Int)]) ∧ DtAt w' (treeD s.data.toList).1 v2 v3 A ∧ Below w.heap.size w w' := by
  have HRD := Lib.hid (fun W => rreadH_any s W (by unfold maxLen; omega))
  have HT0 := Lib.hid (Arr.new w 29 dtZ)
  have HB0 := Lib.hid ((Below.refl w.heap.size w).alloc (Nat.le_refl _) (.cells dtZ 29))
  have hgl : w.heap.size < (w.alloc (.cells dtZ 29)).heap.size := by rw [sz_alloc]; omega
  by_cases h0 : (readH s.data.toList).2 = 0
  · obtain ⟨h, hh⟩ : ∃ h, readH s.data.toList = (h, 0) := ⟨_, Prod.ext rfl h0⟩
    obtain ⟨hm, hl1, hl2, hl3, -⟩ := readH_ok hh
    have hm := mayH_iff.1 hm
    have hlen : s.data.toList.length = s.size := rfl
    have HE0 : Hid (treeD s.data.toList = bodyD (s.data.toList.take h.tot.toNat) h) := by
      unfold Hid treeD
      rw [hh]
      exact if_neg (by simp)
    rw [hh] at HRD
    generalize treeD s.data.toList = R at *
    rw [hlen] at hl1
    obtain ⟨tt, st, sg, rv, bo, tx, sz⟩ := h
    simp only at hm hl1 hl2 HE0 HRD
    obtain ⟨n, rfl⟩ : ∃ n : Nat, tt = (n : Int) := ⟨tt.toNat, by omega⟩
    have hn0 : (0 : Int) ≤ n := by omega
    have hsn : (s.extract 0 n).size ≤ 1099511627776 := by rw [ByteArray.size_extract]; omega
    rw [Int.toNat_natCast, ← ext0_list] at HE0
    generalize hss : s.extract 0 n = S at *
    have HRS := Lib.hid (fun W => rReserve_any S rv W hsn (by omega))
    have HPA := Lib.hid (fun W => rpart_any S st sz W (by unfold maxLen; omega) (by unfold in64; omega) (by unfold in64; omega))
    have HPB := Lib.hid (fun W => rpart_any S sg tx W (by unfold maxLen; omega) (by unfold in64; omega) (by unfold in64; omega))
    unfold bodyD partB at HE0
    simp only at HE0
    rw [show (⟨S.data.toList.toArray⟩ : ByteArray) = S from rfl] at HE0
    have hpa : (partR S st sz).1.size ≤ 1099511627776 := partR_le S st sz hsn
    have hpb : (partR S sg tx).1.size ≤ maxLen := Nat.le_trans (partR_le S sg tx hsn) (by unfold maxLen; omega)
    generalize partR S st sz = PA at *
    generalize partR S sg tx = PB at *
    obtain ⟨pa, ea⟩ := PA
    obtain ⟨pb, eb⟩ := PB
    simp only at HE0 HPA HPB hpa hpb
    have HK := Lib.hid (fun W => rread_any pa pb W hpa hpb)
    have hkl : (readR 1024 pa.data.toList pb.data.toList).1.length ≤ 1099511627776 := Nat.le_trans (readR_len _ _ _) (by decide)
    generalize readR 1024 pa.data.toList pb.data.toList = T at *
    obtain ⟨L, et⟩ := T
    simp only at HE0 HK hkl
    have HO := Lib.hid (fun A cap W h => rOf_any A cap L W h hkl)
    generalize ofR L = O at *
    obtain ⟨nd, eo⟩ := O
    simp only at HE0 HO
    generalize resv S.data.toList rv = V at *
    obtain ⟨K, ev⟩ := V
    simp only at HE0 HRS
    rename_i hm9
    clear hm9 hm hl2 hl3 hlen hkl hpa hpb hsn h0 hh
    go_enter Try.func7, Try.ntmps7
    go_wp2_with fail
    refine (HRD.out _).mono ?_
    rintro e w1 ⟨rfl, hb1⟩
    have HT1 := Lib.hid (HT0.out.below hb1 HT0.out.lt)
    have HB1 := Lib.hid (HB0.out.trans (hb1.mono HB0.out.size))
    have hz1 := HB1.out.size
    have hgl1 := HT1.out.lt
    clear hb1 HT0 HB0 HRD hgl
    have HAN := Lib.hid (Arr.new w1 36 hdZ)
    have HH := Lib.hid (HAN.out.row (#[.int .i64 n, .int .i64 st, .int .i64 sg, .int .i64 rv, .int .i64 bo, .int .i64 tx, .int .i64 sz] : Array Value))
    have HT := Lib.hid ((HT1.out.alloc (.cells hdZ 36)).rowFar (Nat.ne_of_lt hgl1) #[.int .i64 n, .int .i64 st, .int .i64 sg, .int .i64 rv, .int .i64 bo, .int .i64 tx, .int .i64 sz])
    have HB : Hid (Below w.heap.size w ((w1.alloc (.cells hdZ 36)).setRow w1.heap.size #[.int .i64 n, .int .i64 st, .int .i64 sg, .int .i64 rv, .int .i64 bo, .int .i64 tx, .int .i64 sz])) := below_setRow (HB1.out.alloc hz1 _) hz1 _
    go_upto_region 2 with (refine wpList_store_row rfl 36 (.tmp 4) (.tmp 19) rfl w1.heap.size #[.int .i64 n, .int .i64 st, .int .i64 sg, .int .i64 rv, .int .i64 bo, .int .i64 tx, .int .i64 sz] rfl rfl _ _ HAN.out (infoH hd0) rfl (hdC_one ⟨n, st, sg, rv, bo, tx, sz⟩) ?_)
    clear HAN HT1 HB1
    generalize (w1.alloc (.cells hdZ 36)).setRow w1.heap.size #[.int .i64 n, .int .i64 st, .int .i64 sg, .int .i64 rv, .int .i64 bo, .int .i64 tx, .int .i64 sz] = W2 at *
    generalize w1.heap.size = gh at *
    have c0 : W2.cell? ⟨gh, 0, none⟩ = some (.int .i64 n) := HH.out.cell 0
    have c3 : W2.cell? ⟨gh, 3, none⟩ = some (.int .i64 rv) := HH.out.cell 3
    go_wp2_with fail
    refine (HRS.out _).mono ?_
    rintro e w3 ⟨A3, k3, rfl, hsp, hfar, hb⟩
    have HS := Lib.hid hsp
    have HF : Hid (SpFar (w.heap.size + 1) A3 K) := hfar.imp id fun ⟨b, off, e, h⟩ => ⟨b, off, e, Nat.le_trans (Nat.succ_le_of_lt HT.out.lt) h⟩
    have HT := Lib.hid (HT.out.below hb HT.out.lt)
    have HH := Lib.hid (HH.out.below hb HH.out.lt)
    have HB := Lib.hid (HB.out.trans (hb.mono HB.out.size))
    clear hb
    clear hsp hfar c0 c3 HRS
    by_cases he1 : ev = 0
    · subst he1
      rw [if_neg (by simp)] at HE0
      have c1 : w3.cell? ⟨gh, 1, none⟩ = some (.int .i64 st) := HH.out.cell 1
      have c6 : w3.cell? ⟨gh, 6, none⟩ = some (.int .i64 sz) := HH.out.cell 6
      go_wp2_with fail
      refine (HPA.out _).mono ?_
      rintro e w4 ⟨rfl, hb⟩
      have HS := Lib.hid (HS.out.below hb)
      have HT := Lib.hid (HT.out.below hb HT.out.lt)
      have HH := Lib.hid (HH.out.below hb HH.out.lt)
      have HB := Lib.hid (HB.out.trans (hb.mono HB.out.size))
      clear hb
      clear c1 c6 HPA
      have c2 : w4.cell? ⟨gh, 2, none⟩ = some (.int .i64 sg) := HH.out.cell 2
      have c5 : w4.cell? ⟨gh, 5, none⟩ = some (.int .i64 tx) := HH.out.cell 5
      go_wp2_with fail
      refine (HPB.out _).mono ?_
      rintro e w5 ⟨rfl, hb⟩
      have HS := Lib.hid (HS.out.below hb)
      have HT := Lib.hid (HT.out.below hb HT.out.lt)
      have HH := Lib.hid (HH.out.below hb HH.out.lt)
      have HB := Lib.hid (HB.out.trans (hb.mono HB.out.size))
      clear hb
      clear c2 c5 HPB
      go_wp2_with fail
      refine (HK.out _).mono ?_
      rintro e w6 ⟨v, rfl, hgot, hb⟩
      obtain ⟨A6, k6, rfl, hrd⟩ := row_rdTk hgot
      have HRT := Lib.hid hrd
      have HS := Lib.hid (HS.out.below hb)
      have HT := Lib.hid (HT.out.below hb HT.out.lt)
      have HH := Lib.hid (HH.out.below hb HH.out.lt)
      have HB := Lib.hid (HB.out.trans (hb.mono HB.out.size))
      clear hb
      clear HK hgot hrd
      by_cases he2 : et = 0
      · subst he2
        rw [if_neg (by simp)] at HE0
        go_wp2_with fail
        refine (HO.out _ _ _ HRT.out).mono ?_
        rintro e w7 ⟨v2, v3, rfl, hnd, hb⟩
        obtain ⟨B2, B3, m2, m3, rfl, rfl, hsh⟩ := nd_shape hnd
        have HS := Lib.hid (HS.out.below hb)
        have HND := Lib.hid hnd
        have HGL := Lib.hid (Nat.lt_of_lt_of_le HT.out.lt (Nat.le_refl w6.heap.size))
        have HT := Lib.hid (HT.out.below hb HT.out.lt)
        have HH := Lib.hid (HH.out.below hb HH.out.lt)
        have HB := Lib.hid (HB.out.trans (hb.mono HB.out.size))
        clear hb
        clear hnd hsh HO HRT
        have hbn : Below w7.heap.size w7 (w7.alloc (.cells #[.string nd.nm, .slice B2 nd.ps.length m2, .slice B3 nd.ks.length m3] 26)) := (Below.refl _ _).alloc (Nat.le_refl _) _
        have HNN := Lib.hid (Arr.new w7 26 #[.string nd.nm, .slice B2 nd.ps.length m2, .slice B3 nd.ks.length m3])
        have HT := Lib.hid (HT.out.below hbn HT.out.lt)
        have HH := Lib.hid (HH.out.below hbn HH.out.lt)
        have HS := Lib.hid (HS.out.below hbn)
        have HND := Lib.hid (nd_below HND.out hbn)
        have HB := Lib.hid (HB.out.trans (hbn.mono HB.out.size))
        clear hbn
        go_upto_region 14 with fail
        generalize w7.alloc (.cells #[.string nd.nm, .slice B2 nd.ps.length m2, .slice B3 nd.ks.length m3] 26) = W8 at *
        generalize w7.heap.size = gn at *
        by_cases he3 : eo = 0
        · subst he3
          rw [if_neg (by simp)] at HE0
          have c4 : W8.cell? ⟨gh, 4, none⟩ = some (.int .i64 bo) := HH.out.cell 4
          have HNF : Hid (NdAt (W8.setRow w.heap.size #[.string nd.nm, .slice B2 nd.ps.length m2, .slice B3 nd.ks.length m3, .slice A3 K.length k3, .int .i64 bo]) (fun k => w6.heap.size ≤ k) nd (.slice B2 nd.ps.length m2) (.slice B3 nd.ks.length m3)) :=
            HND.out.kept (moved_setRow W8 _ _) (fun k hk e => by have := HGL.out; omega)
          have HSF := Lib.hid (rdSp_row (cs := #[.string nd.nm, .slice B2 nd.ps.length m2, .slice B3 nd.ks.length m3, .slice A3 K.length k3, .int .i64 bo]) HS.out HF.out (Nat.lt_succ_self _))
          clear HS HND HH
          go_wp2_with (first | (refine wpList_load_row rfl 26 (.tmp 14) rfl gn rfl _ _ _ _ HNN.out Try.underlying26 rfl (infoNd _ _ _) ?_) | (refine wpList_store_row rfl 29 (.tmp 2) (.tmp 83) rfl w.heap.size (dtC nd.nm (.slice B2 nd.ps.length m2) (.slice B3 nd.ks.length m3) (.slice A3 K.length k3) bo) rfl rfl _ _ HT.out (infoDt nd.nm (.slice B2 nd.ps.length m2) (.slice B3 nd.ks.length m3) (.slice A3 K.length k3) bo) rfl (dtC_one nd.nm (.slice B2 nd.ps.length m2) (.slice B3 nd.ks.length m3) (.slice A3 K.length k3) bo rfl rfl rfl) ?_))
          exact bodyPost_ret (results_rowN rfl _ _ w.heap.size _ (dtC nd.nm (.slice B2 nd.ps.length m2) (.slice B3 nd.ks.length m3) (.slice A3 K.length k3) bo) _ _ rfl (HT.out.row _) Try.underlying29 rfl (infoDt nd.nm (.slice B2 nd.ps.length m2) (.slice B3 nd.ks.length m3) (.slice A3 K.length k3) bo)) rfl ⟨_, _, _, _, by rw [HE0.out]; rfl, by rw [HE0.out]; exact ⟨(nd_lt HNF.out), HSF.out⟩, below_setRow HB.out (Nat.le_refl _) _⟩
        · have d1 : ((eo : Int) != 0) = true := by simp; omega
          have HE1 : Hid (R = (dt0, eo)) := by unfold Hid; rw [HE0.out, if_pos he3]
          clear he3 HE0 HS HF HND HH HNN
          go_wp2_with (refine wpList_store_row rfl 29 (.tmp 2) (.tmp 77) rfl w.heap.size dtZ rfl rfl _ _ HT.out infoDz rfl dtZ_one ?_)
          exact bodyPost_ret (results_rowN rfl _ _ w.heap.size _ dtZ _ _ rfl (HT.out.row _) Try.underlying29 rfl infoDz) rfl ⟨_, _, _, _, by rw [HE1.out]; rfl, by rw [HE1.out]; exact dtAt_zero _, below_setRow HB.out (Nat.le_refl _) _⟩
      · have d1 : ((et : Int) != 0) = true := by simp; omega
        have HE1 : Hid (R = (dt0, et)) := by unfold Hid; rw [HE0.out, if_pos he2]
        clear he2 HE0 HO HS HF HRT HH
        go_wp2_with (refine wpList_store_row rfl 29 (.tmp 2) (.tmp 68) rfl w.heap.size dtZ rfl rfl _ _ HT.out infoDz rfl dtZ_one ?_)
        exact bodyPost_ret (results_rowN rfl _ _ w.heap.size _ dtZ _ _ rfl (HT.out.row _) Try.underlying29 rfl infoDz) rfl ⟨_, _, _, _, by rw [HE1.out]; rfl, by rw [HE1.out]; exact dtAt_zero _, below_setRow HB.out (Nat.le_refl _) _⟩
    · have d1 : ((ev : Int) != 0) = true := by simp; omega
      have HE1 : Hid (R = (dt0, ev)) := by unfold Hid; rw [HE0.out, if_pos he1]
      clear he1 HE0 HK HO HPA HPB HS HF HH
      go_wp2_with (refine wpList_store_row rfl 29 (.tmp 2) (.tmp 38) rfl w.heap.size dtZ rfl rfl _ _ HT.out infoDz rfl dtZ_one ?_)
      exact bodyPost_ret (results_rowN rfl _ _ w.heap.size _ dtZ _ _ rfl (HT.out.row _) Try.underlying29 rfl infoDz) rfl ⟨_, _, _, _, by rw [HE1.out]; rfl, by rw [HE1.out]; exact dtAt_zero _, below_setRow HB.out (Nat.le_refl _) _⟩
  · have HE1 : Hid (treeD s.data.toList = (dt0, (readH s.data.toList).2)) := if_pos h0
    have HHZ : Hid ((readH s.data.toList).1 = hd0) := readH_bad (s := s.data.toList) (Prod.ext rfl rfl) h0
    generalize treeD s.data.toList = R at *
    generalize readH s.data.toList = D at *
    obtain ⟨dh, de⟩ := D
    simp only at HE1 HHZ h0 HRD
    obtain rfl := HHZ.out
    have d1 : ((de : Int) != 0) = true := by simp; omega
    clear h0 HHZ
    go_enter Try.func7, Try.ntmps7
    go_wp2_with fail
    refine (HRD.out _).mono ?_
    rintro e w1 ⟨rfl, hb1⟩
    have HT1 := Lib.hid (HT0.out.below hb1 HT0.out.lt)
    have HB1 := Lib.hid (HB0.out.trans (hb1.mono HB0.out.size))
    have hz1 := HB1.out.size
    have hgl1 := HT1.out.lt
    clear hb1 HT0 HB0 HRD hgl
    have HAN := Lib.hid (Arr.new w1 36 hdZ)
    have HT := Lib.hid ((HT1.out.alloc (.cells hdZ 36)).rowFar (Nat.ne_of_lt hgl1) hdZ)
    have HB : Hid (Below w.heap.size w ((w1.alloc (.cells hdZ 36)).setRow w1.heap.size hdZ)) := below_setRow (HB1.out.alloc hz1 _) hz1 _
    go_upto_region 2 with (refine wpList_store_row rfl 36 (.tmp 4) (.tmp 19) rfl w1.heap.size hdZ rfl rfl _ _ HAN.out (infoH hd0) rfl (hdC_one hd0) ?_)
    clear HAN HT1 HB1
    generalize (w1.alloc (.cells hdZ 36)).setRow w1.heap.size hdZ = W2 at *
    generalize w1.heap.size = gh at *
    go_wp2_with (refine wpList_store_row rfl 29 (.tmp 2) (.tmp 23) rfl w.heap.size dtZ rfl rfl _ _ HT.out infoDz rfl dtZ_one ?_)
    exact bodyPost_ret (results_rowN rfl _ _ w.heap.size _ dtZ _ _ rfl (HT.out.row _) Try.underlying29 rfl infoDz) rfl ⟨_, _, _, _, by rw [HE1.out]; rfl, by rw [HE1.out]; exact dtAt_zero _, below_setRow HB.out (Nat.le_refl _) _⟩
end Go.Proofs.Ytmgmpjgofolkgaa
