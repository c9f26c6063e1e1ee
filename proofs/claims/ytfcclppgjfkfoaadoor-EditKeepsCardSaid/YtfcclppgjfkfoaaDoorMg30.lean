/- What the document's tokens and Tokens of trees return. Conditions: a tree that is read, of at most 2^39 tokens. -/
import Derived.Test.YtfcclppgjfkfoaaDoorMg12
import Derived.Test.YtfcclppgjfkfoaaDoorMg29
import Derived.Deep.RegionLaw
import Derived.Deep.AppendLies
namespace Go.Proofs.YtfcclppgjfkfoaaDoor
open Go.RowKit

/-- The tokens behind j properties, and behind j kids. -/
def tkPs (n : ND) (j : Nat) : List TK := ⟨1, n.nm, ByteArray.empty⟩ :: (n.ps.take j).map tokP
def tkKs (k : Nat) (n : ND) (j : Nat) : List TK := (⟨1, n.nm, ByteArray.empty⟩ :: n.ps.map tokP) ++ (n.ks.take j).flatMap (tokR k)
theorem tkPs_succ (n : ND) {j : Nat} (hj : j < n.ps.length) : tkPs n (j + 1) = tkPs n j ++ [tokP (n.ps.getD j pr0)] := by
  unfold tkPs
  rw [List.take_succ_eq_append_getElem hj, List.map_append, List.cons_append]
  have e : n.ps.getD j pr0 = n.ps[j] := by rw [List.getD_eq_getElem?_getD, List.getElem?_eq_getElem hj]; rfl
  rw [e]; rfl
theorem tkPs_all (k : Nat) (n : ND) : tkPs n n.ps.length = tkKs k n 0 := by
  unfold tkPs tkKs; rw [List.take_length]; simp
theorem tkPs_len (n : ND) {j : Nat} (hj : j ≤ n.ps.length) : (tkPs n j).length = 1 + j := by
  unfold tkPs; rw [List.length_cons, List.length_map, List.length_take]; omega
theorem tkKs_succ (k : Nat) (n : ND) {j : Nat} (hj : j < n.ks.length) : tkKs k n (j + 1) = tkKs k n j ++ tokR k (n.ks.getD j nd0) := by
  unfold tkKs
  rw [List.take_succ_eq_append_getElem hj, List.flatMap_append, ← List.append_assoc]
  have e : n.ks.getD j nd0 = n.ks[j] := by rw [List.getD_eq_getElem?_getD, List.getElem?_eq_getElem hj]; rfl
  rw [e]; simp
theorem tokR_eq (k : Nat) (n : ND) : tokR (k + 1) n = tkKs k n n.ks.length ++ [⟨2, ByteArray.empty, ByteArray.empty⟩] := by
  unfold tkKs; rw [List.take_length]; rfl
theorem tkKs_le (k : Nat) (n : ND) {j : Nat} (hj : j ≤ n.ks.length) : (tkKs k n j).length + 1 ≤ (tokR (k + 1) n).length := by
  have h : ∀ d i, i + d ≤ n.ks.length → (tkKs k n i).length ≤ (tkKs k n (i + d)).length := by
    intro d
    induction d with
    | zero => intro i _; exact Nat.le_refl _
    | succ d ih =>
      intro i hi
      have h1 := ih i (by omega)
      rw [show i + (d + 1) = i + d + 1 by omega, tkKs_succ k n (show i + d < n.ks.length by omega), List.length_append]
      omega
  have h1 := h (n.ks.length - j) j (by omega)
  rw [show j + (n.ks.length - j) = n.ks.length by omega] at h1
  rw [tokR_eq, List.length_append]
  simp only [List.length_cons, List.length_nil]; omega
theorem tok_kid_le (k : Nat) (n : ND) {j : Nat} (hj : j < n.ks.length) : (tkKs k n j).length + (tokR k (n.ks.getD j nd0)).length + 1 ≤ (tokR (k + 1) n).length := by
  have h := tkKs_le k n (j := j + 1) (by omega)
  rw [tkKs_succ k n hj, List.length_append] at h
  omega
/-- A slice of one token that was just made. -/
theorem own_one (w : World) (x : TK) (B : Nat) (hB : B ≤ w.heap.size) : (w.alloc (.cells (tkC x) 36)).ownsRow B 36 3 (.slice (some ⟨w.heap.size, 0, none⟩) 1 1) 1 (tkL [x]) :=
  ⟨rfl, .inr ⟨w.heap.size, 1, tkC x, rfl, hB, Arr.new w _ _, Nat.le_refl _, by decide, rfl, rfl⟩⟩

set_option maxHeartbeats 3200000 in
set_option maxRecDepth 100000 in
theorem rtokens_any : ∀ (k : Nat) (G : Nat → Prop) (n : ND) (v2 v3 : Value) (w : World), k ≤ 20 → (tokR k n).length ≤ 549755813888 → NdAt w G n v2 v3 →
    Calls Tryd.prog 22 #[.agg #[.string n.nm, v2, v3], .int .i64 (k : Int)] w fun e w' => ∃ v, e = .returned v ∧ w'.ownsRow w.heap.size 36 3 v (tokR k n).length (tkL (tokR k n)) ∧ Below w.heap.size w w'
  | 0, _, n, v2, v3, w, _, _, _ => by
    have hB : Below w.heap.size w (w.alloc (.cells #[.string n.nm, v2, v3] 25)) := (Below.refl _ _).alloc (Nat.le_refl _) _
    have HB := Lib.hid hB
    clear hB
    go_enter Tryd.func22, Tryd.ntmps22
    go_wp2
    go_ret
    exact ⟨_, rfl, World.ownsRow_nil _ _ _ _, HB.out⟩
  | k + 1, _, n, v2, v3, w, hk20, hlen, hN0 => by
    have hN := nd_lt hN0
    have HIH := Lib.hid (fun x y z W h1 h => rtokens_any k (fun b => b < w.heap.size) x y z W (by omega) h1 h)
    have e1 : (k : Int) = ((k + 1 : Nat) : Int) - 1 := by omega
    rw [e1] at HIH
    obtain ⟨A, K, pc, kc, rfl, rfl, hpc, hpm, hkc, hkm⟩ := nd_shape hN
    unfold maxLen at hpm hkm
    have hp0 := tkKs_le k n (Nat.zero_le _)
    rw [← tkPs_all, tkPs_len n (Nat.le_refl _)] at hp0
    have HPS := Lib.hid (fun j (hj : j < n.ps.length) => tkPs_succ n hj)
    have HPA := Lib.hid (tkPs_all k n)
    have HPL := Lib.hid (fun j (hj : j ≤ n.ps.length) => tkPs_len n hj)
    have HKS := Lib.hid (fun j (hj : j < n.ks.length) => tkKs_succ k n hj)
    have HKE := Lib.hid (tokR_eq k n)
    have HKL := Lib.hid (fun j (hj : j ≤ n.ks.length) => tkKs_le k n hj)
    have HKK2 := Lib.hid (fun j (hj : j < n.ks.length) => tok_kid_le k n hj)
    generalize tokR (k + 1) n = R at *
    clear e1 hN0
    have d0 : (((k + 1 : Nat) : Int) == 0) = false := by simp; omega
    obtain ⟨KK, hKK⟩ : ∃ KK : Nat, KK = k + 1 := ⟨_, rfl⟩
    rw [← hKK] at HIH d0 hk20 ⊢
    obtain ⟨W1, hW1⟩ : ∃ W1, W1 = w.alloc (.cells #[.string n.nm, .slice A n.ps.length pc, .slice K n.ks.length kc] 25) := ⟨_, rfl⟩
    obtain ⟨g8, hg8⟩ : ∃ g8, g8 = w.heap.size := ⟨_, rfl⟩
    have hB1 : Below w.heap.size w W1 := by rw [hW1]; exact (Below.refl _ _).alloc (Nat.le_refl _) _
    have hA8 : Arr W1 g8 25 #[.string n.nm, .slice A n.ps.length pc, .slice K n.ks.length kc] := by rw [hW1, hg8]; exact Arr.new w _ _
    have HN := Lib.hid hN
    have hz1 := hB1.size
    have k0 : W1.cell? ⟨g8, 0, none⟩ = some (.string n.nm) := hA8.cell 0
    have hba : Below W1.heap.size W1 (W1.alloc (.cells (tkC ⟨1, n.nm, ByteArray.empty⟩) 36)) := (Below.refl _ _).alloc (Nat.le_refl _) _
    have HO0 : Hid ((W1.alloc (.cells (tkC ⟨1, n.nm, ByteArray.empty⟩) 36)).ownsRow 0 36 3 (.slice (some ⟨W1.heap.size, 0, none⟩) 1 1) (tkPs n 0).length (tkL (tkPs n 0))) := own_one W1 _ 0 (Nat.zero_le _)
    have HB0 := Lib.hid (hB1.trans (hba.mono hz1))
    have HA80 := Lib.hid (hA8.below hba hA8.lt)
    clear hN hB1 hA8 hKK hba
    go_enter Tryd.func22, Tryd.ntmps22
    go_upto_region 1 with fail
    rw [← hW1, ← hg8]
    clear hW1 hg8
    go_wp2
    go_loopw [5, 6] (fun o i wr => ∃ j : Nat, j ≤ n.ps.length ∧ i = .int .i64 j ∧ wr.ownsRow 0 36 3 o (tkPs n j).length (tkL (tkPs n j)) ∧ (∀ q, o.ownBlock = some q → w.heap.size ≤ q) ∧ Below w.heap.size w wr ∧ Arr wr g8 25 #[.string n.nm, .slice A n.ps.length pc, .slice K n.ks.length kc]) (fun _ i _ => n.ps.length - (intOf i).toNat)
    case atStart => exact ⟨0, Nat.zero_le _, rfl, HO0.out, (fun q hq => by injection hq with hq; subst hq; exact hz1), HB0.out, HA80.out⟩
    case round =>
      clear HO0 HB0 HA80
      obtain ⟨j, hj, rfl, hown, hbl, hb, hA8⟩ := hrel
      have HB := Lib.hid hb
      have HOWN := Lib.hid hown
      have HBL := Lib.hid hbl
      have HA8 := Lib.hid hA8
      have hsz := hb.size
      have k1 : wr.cell? ⟨g8, 1, none⟩ = some (.slice A n.ps.length pc) := hA8.cell 1
      by_cases hlt : j < n.ps.length
      · have hji : (j : Int) < n.ps.length := by omega
        obtain ⟨b, off, x, rfl, ⟨h1, h2⟩, HX⟩ := nd_prop (nd_below HN.out hb) hlt
        have HS := HPS.out j hlt
        rw [HX.out] at HS
        have HSJ := Lib.hid HS
        have hpl := HPL.out j hj
        have hPb : (tkPs n j).length ≤ 549755813888 := by omega
        clear hpl
        obtain ⟨pn, pv⟩ := x
        simp only [tokP] at HSJ
        simp only at h1 h2
        obtain ⟨A5, cap5, ho, _⟩ := row_rdTk hown
        subst ho
        clear HS HX hown hbl hA8 hb
        generalize tkPs n j = P at *
        have hinf : ((Tryd.prog.info? 36).map fun i => (i.zero, i.size, i.bytes)) = some (some (tkV tk0), 3, 40) := by kernel_rfl
        obtain ⟨i0, hi, he⟩ := Option.map_eq_some_iff.1 hinf
        simp only [Prod.mk.injEq] at he
        have HI := Lib.hid hi
        have HZ0 := Lib.hid he.1
        have HZ1 := Lib.hid he.2.1
        have HZ2 := Lib.hid he.2.2
        have HU := Lib.hid Tryd.underlying31
        have hba : Below wr.heap.size wr (wr.alloc (.cells (tkC ⟨3, pn, pv⟩) 36)).drew := ((Below.refl _ _).alloc (Nat.le_refl _) _).drew
        have HAD := Lib.hid (ow_below HOWN.out hba)
        have HNW : Hid (∀ q u, (tkl ⟨3, pn, pv⟩)[q]? = some u → (wr.alloc (.cells (tkC ⟨3, pn, pv⟩) 36)).drew.cell? ((⟨wr.heap.size, 0, none⟩ : Addr).add q) = some u) :=
          World.news_of_block (cs := tkC ⟨3, pn, pv⟩) (heap_alloc_new wr (.cells (tkC ⟨3, pn, pv⟩) 36))
        have HON : Hid (∀ u ∈ tkl ⟨3, pn, pv⟩, u.oneCell' = true) := by
          intro u hu; simp [tkl] at hu; rcases hu with rfl | rfl | rfl <;> rfl
        have HFI : Hid (∀ (g' cap' : Nat) (w5 : World), w5.ownsRow 0 36 3 (.slice (some ⟨g', 0, none⟩) (P.length + 1) cap') (P.length + 1) (tkL P ++ tkl ⟨3, pn, pv⟩) → (wr.alloc (.cells (tkC ⟨3, pn, pv⟩) 36)).drew.grownBy w5 (Value.slice A5 P.length cap5).ownBlock → ((Value.slice A5 P.length cap5).ownBlock = some g' ∨ g' = wr.heap.size + 1) →
            w5.ownsRow 0 36 3 (.slice (some ⟨g', 0, none⟩) (P.length + 1) cap') (tkPs n (j + 1)).length (tkL (tkPs n (j + 1))) ∧ (∀ q, (Value.slice (some ⟨g', 0, none⟩) (P.length + 1) cap').ownBlock = some q → w.heap.size ≤ q) ∧ Below w.heap.size w w5 ∧ Arr w5 g8 25 #[.string n.nm, .slice (some ⟨b, off, none⟩) n.ps.length pc, .slice K n.ks.length kc]) := by
          intro g' cap' w5 hown5 hg hat
          have hA5 := (HA8.out.below hba HA8.out.lt).gr hg (ow_arr (HA8.out.below hba HA8.out.lt) HAD.out (by decide))
          refine ⟨?_, ?_, ?_, hA5⟩
          · rw [HSJ.out, tkL_snoc, List.length_append]; exact hown5
          · intro q hq
            simp only [Value.ownBlock, Option.some.injEq] at hq
            subst hq
            rcases hat with h | h
            · exact HBL.out _ h
            · omega
          · have hb2 : Below w.heap.size w (wr.alloc (.cells (tkC ⟨3, pn, pv⟩) 36)).drew := HB.out.trans (hba.mono hsz)
            exact hb2.grown hg hb2.size (fun q hq => HBL.out q hq)
        clear hba hi he hinf HSJ
        go_upto_region 7 with fail
        go_region_law (first | (refine step_append_lies _ (by rfl) _ _ _ (by rfl) 0 36 i0 (tkV tk0) 3 40 HU.out HI.out HZ0.out HZ1.out HZ2.out rfl (by decide) (.slice A5 P.length cap5) P.length (tkL P) (by rfl) HAD.out ⟨wr.heap.size, 0, none⟩ 1 1 (tkl ⟨3, pn, pv⟩) (by rfl) rfl HNW.out HON.out (by decide) (by unfold maxLen; omega) (by omega) (Nat.zero_le _) _ rfl ?_; intro g' cap' w5 hown5 hgrow hat hlt5))
        all_goals (
          obtain ⟨r1, r2, r3, r4⟩ := HFI.out _ _ _ hown5 hgrow (hat.imp id (fun e => e.trans (sz_alloc _ _)))
          have R1 := Lib.hid r1
          have R2 := Lib.hid r2
          have R3 := Lib.hid r3
          have R4 := Lib.hid r4
          clear r1 r2 r3 r4 hown5 hgrow hat HFI HAD HNW HON HOWN HB HBL HA8
          go_wp2
          go_roundw
          case rel => exact ⟨j + 1, by omega, by go_num, R1.out, R2.out, R3.out, R4.out⟩
          case measure => simp [intOf]; omega)
      · obtain rfl : j = n.ps.length := by omega
        rw [HPA.out] at HOWN
        have hz0 := HKL.out 0 (Nat.zero_le _)
        clear hown hbl hb hA8
        go_wp2
        go_loopw [5, 7] (fun o i wx => ∃ j : Nat, j ≤ n.ks.length ∧ i = .int .i64 j ∧ wx.ownsRow 0 36 3 o (tkKs k n j).length (tkL (tkKs k n j)) ∧ (∀ q, o.ownBlock = some q → w.heap.size ≤ q) ∧ Below w.heap.size w wx ∧ Arr wx g8 25 #[.string n.nm, .slice A n.ps.length pc, .slice K n.ks.length kc]) (fun _ i _ => n.ks.length - (intOf i).toNat)
        case atStart => exact ⟨0, Nat.zero_le _, rfl, HOWN.out, HBL.out, HB.out, HA8.out⟩
        case round =>
          clear HOWN HBL HB HA8 hsz k1
          obtain ⟨j, hj, rfl, hown, hbl, hb, hA8⟩ := hrel
          have HB := Lib.hid hb
          have HOWN := Lib.hid hown
          have HBL := Lib.hid hbl
          have HA8 := Lib.hid hA8
          have hsz := hb.size
          have k2 : wr.cell? ⟨g8, 2, none⟩ = some (.slice K n.ks.length kc) := hA8.cell 2
          have hkl := HKL.out j hj
          by_cases hlt : j < n.ks.length
          · have hji : (j : Int) < n.ks.length := by omega
            obtain ⟨b, off, x, y, z, rfl, h1, h2, h3, h4, HX⟩ := nd_kid (nd_below HN.out hb) hlt
            have hk2 := HKK2.out j hlt
            have hks := HKS.out j hlt
            rw [HX.out] at hk2 hks
            have HKJ := Lib.hid hks
            have HC := Lib.hid (HIH.out x y z wr (by omega) h4)
            have hPb : (tkKs k n j).length + (tokR k x).length ≤ 549755813888 := by omega
            clear hks hk2 h4 hown hbl hA8 hb HX
            generalize tkKs k n j = P at *
            generalize tokR k x = T at *
            go_wp2_with fail
            refine HC.out.mono ?_
            rintro e w3 ⟨v3', rfl, ho3, hb3⟩
            have HO3 := Lib.hid ho3
            have HOWN3 := Lib.hid (ow_below HOWN.out hb3)
            have HB3 := Lib.hid (HB.out.trans (hb3.mono hsz))
            have hz3 := HB3.out.size
            have HA83 := Lib.hid (HA8.out.below hb3 HA8.out.lt)
            clear ho3 hb3 HC HOWN HB HA8
            go_wp2_with (at_builtin; refine append_tks rfl (.tmp 44) (.tmp 52) rfl _ v3' P T wr.heap.size rfl HOWN3.out rfl HO3.out (by omega) ?_; intro v5 w5 ho5 hm5; have HO5 := Lib.hid ho5; have HM5 := Lib.hid hm5; clear ho5 hm5)
            have HB5 := Lib.hid (HB3.out.trans (HM5.out.below HBL.out hz3))
            have HA85 := Lib.hid (HM5.out.arr HA83.out (fun h => ow_arr HA83.out HOWN3.out (by decide) h.symm))
            go_roundw
            case rel => exact ⟨j + 1, by omega, by go_num, by rw [HKJ.out]; exact HO5.out, (fun q hq => by
              rcases HM5.out.foot q hq with h5 | h5
              · exact HBL.out q h5
              · exact Nat.le_trans hz3 h5), HB5.out, HA85.out⟩
            case measure => simp [intOf]; omega
          · obtain rfl : j = n.ks.length := by omega
            have hPb : (tkKs k n n.ks.length).length ≤ 549755813888 := by omega
            clear hown hbl hA8 hb
            generalize tkKs k n n.ks.length = P at *
            go_wp2_with (at_builtin; refine append_tk rfl (.tmp 54) (.tmp 56) rfl ⟨2, ByteArray.empty, ByteArray.empty⟩ _ P rfl HOWN.out wr.heap.size rfl rfl (by omega) ?_; intro v5 w5 ho5 hm5; have HO5 := Lib.hid ho5; have HM5 := Lib.hid hm5; clear ho5 hm5)
            have HB5 := Lib.hid (HB.out.trans (HM5.out.below HBL.out hsz))
            go_ret
            refine ⟨_, rfl, ?_, HB5.out⟩
            rw [HKE.out]
            exact ow_base HO5.out (fun q hq => by
              rcases HM5.out.foot q hq with h5 | h5
              · exact HBL.out q h5
              · exact Nat.le_trans hsz h5)

set_option maxHeartbeats 800000 in
set_option maxRecDepth 100000 in
theorem rTokens_any (G : Nat → Prop) (n : ND) (v2 v3 : Value) (w : World) (hlen : (tokR 8 n).length ≤ 549755813888) (hN : NdAt w G n v2 v3) :
    Calls Tryd.prog 8 #[.agg #[.string n.nm, v2, v3]] w fun e w' => ∃ v, e = .returned v ∧ w'.ownsRow w.heap.size 36 3 v (tokR 8 n).length (tkL (tokR 8 n)) ∧ Below w.heap.size w w' := by
  obtain ⟨W1, hW1⟩ : ∃ W1, W1 = w.alloc (.cells #[.string n.nm, v2, v3] 25) := ⟨_, rfl⟩
  obtain ⟨g8, hg8⟩ : ∃ g8, g8 = w.heap.size := ⟨_, rfl⟩
  have hB1 : Below w.heap.size w W1 := by rw [hW1]; exact (Below.refl _ _).alloc (Nat.le_refl _) _
  have hA8 : Arr W1 g8 25 #[.string n.nm, v2, v3] := by rw [hW1, hg8]; exact Arr.new w _ _
  have HB1 := Lib.hid hB1
  have hz1 := hB1.size
  have k0 : W1.cell? ⟨g8, 0, none⟩ = some (.string n.nm) := hA8.cell 0
  have k1 : W1.cell? ⟨g8, 1, none⟩ = some v2 := hA8.cell 1
  have k2 : W1.cell? ⟨g8, 2, none⟩ = some v3 := hA8.cell 2
  have HC := Lib.hid (rtokens_any 8 G n v2 v3 W1 (by omega) hlen (nd_below hN hB1))
  generalize tokR 8 n = T at *
  clear hN hB1 hA8 hlen
  go_enter Tryd.func8, Tryd.ntmps8
  go_upto_region 1 with fail
  rw [← hW1, ← hg8]
  clear hW1 hg8
  go_wp2_with fail
  refine HC.out.mono ?_
  rintro e w3 ⟨v, rfl, ho, hb3⟩
  have HO := Lib.hid (ow_base ho (base' := w.heap.size) (fun q hq => Nat.le_trans hz1 (ho.lt q hq).1))
  have HB3 := Lib.hid (HB1.out.trans (hb3.mono hz1))
  clear hb3 ho HC
  go_wp2
  go_ret
  exact ⟨v, rfl, HO.out, HB3.out⟩
end Go.Proofs.YtfcclppgjfkfoaaDoor
