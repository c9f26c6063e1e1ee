/- The law PathWalk: whatever comes in it returns true. Conditions: the contracts of package path; a tree that is read, a string that fits. -/
import Derived.Test.YtjphecfkjpfkeaaDoorMg32
import Derived.Test.YtjphecfkjpfkeaaDoorPtW
import Derived.Test.YtjphecfkjpfkeaaDoorMg34
import Derived.Test.YtjphecfkjpfkeaaDoorMg35
import Derived.Test.YtjphecfkjpfkeaaDoorMg21
import Derived.Deep.DeepCutAuto
namespace Go.Proofs.YtjphecfkjpfkeaaDoor
open Go.RowKit

theorem bel_drewN {B : Nat} {w w' : World} (h : Below B w w') (n : Nat) : Below B w (w'.drewN n) := ⟨h.os, h.tape, h.output, h.size, h.block⟩
/-- Of a node that is walked the kids' names are short; and its path is. -/
theorem walk_nm : ∀ (k : Nat) (p : List UInt8) (n : ND), nmR k n = true → ∀ q m, (q, m) ∈ walkR k p n → q.length ≤ p.length + 101 * k ∧ ∀ x ∈ m.ks, x.nm.size ≤ 100
  | 0, _, _, _, q, m, h => absurd (show (q, m) ∈ ([] : List (List UInt8 × ND)) from h) List.not_mem_nil
  | k + 1, p, n, hn, q, m, h => by
    have e : walkR (k + 1) p n = (p, n) :: n.ks.flatMap fun x => walkR k (under p ++ x.nm.data.toList) x := rfl
    rw [e] at h
    rcases List.mem_cons.1 h with h | h
    · injection h with h1 h2
      rw [h1, h2]
      exact ⟨by omega, fun x hx => (nm_kids hn x hx).1⟩
    · obtain ⟨x, hx, h⟩ := List.mem_flatMap.1 h
      obtain ⟨h1, h2⟩ := nm_kids hn x hx
      obtain ⟨h3, h4⟩ := walk_nm k _ x h2 q m h
      have hu : (under p).length ≤ p.length + 1 := by
        unfold under
        split
        · omega
        · rw [List.length_append]; exact Nat.le_refl _
      rw [List.length_append] at h3
      have hx : x.nm.data.toList.length = x.nm.size := rfl
      exact ⟨by omega, h4⟩
theorem split_len : ∀ (q : List UInt8), ∀ x ∈ splitS q, x.length ≤ q.length
  | [], x, h => by
    have h : x ∈ [([] : List UInt8)] := h
    rw [List.mem_singleton] at h
    rw [h]; exact Nat.le_refl _
  | c :: r, x, h => by
    rw [splitS] at h
    split at h
    · rcases List.mem_cons.1 h with h | h
      · rw [h]; exact Nat.zero_le _
      · exact Nat.le_succ_of_le (split_len r x h)
    · rcases List.mem_cons.1 h with h | h
      · rw [h, List.length_cons, List.length_cons]
        have := split_len r ((splitS r).headD []) (by rw [split_cons]; exact List.mem_cons_self)
        omega
      · exact Nat.le_succ_of_le (split_len r x (by rw [split_cons]; exact List.mem_cons_of_mem _ h))
theorem parts_len {p : List UInt8} : ∀ x ∈ (partsR p).1, x.length ≤ p.length := by
  unfold partsR
  split
  · exact fun x hx => absurd hx List.not_mem_nil
  · split
    · intro x hx
      have := split_len _ x hx
      rw [List.length_drop] at this
      omega
    · exact fun x hx => absurd hx List.not_mem_nil
theorem baL_each {l : List (List UInt8)} {b : Nat} (h : ∀ x ∈ l, x.length ≤ b) : ∀ k, k < (baL l).length → ((baL l).getD k ByteArray.empty).size ≤ b := fun k hk => by
  have hk' : k < l.length := by rwa [baL_len] at hk
  have e : (baL l).getD k ByteArray.empty = ⟨l[k].toArray⟩ := by
    rw [List.getD_eq_getElem?_getD, List.getElem?_eq_getElem hk]
    unfold baL at hk ⊢
    rw [List.getElem_map]; rfl
  rw [e]
  show l[k].toArray.size ≤ b
  rw [List.size_toArray]
  exact h _ (List.getElem_mem hk')
/-- The names of a node's kids up to the i-th may be told. -/
def TellTo (m : ND) (a : Nat) : Prop := (∀ j, j < a → okNm (m.ks.getD j nd0).nm.data.toList) ∧ ∀ i, i < a → ∀ j, j < i → (m.ks.getD j nd0).nm ≠ (m.ks.getD i nd0).nm
/-- The a-th kid's name is that of none of the first c. -/
def Alone (m : ND) (a c : Nat) : Prop := ∀ j, j < c → (m.ks.getD j nd0).nm ≠ (m.ks.getD a nd0).nm
theorem tell_0 (m : ND) : TellTo m 0 := ⟨fun _ h => absurd h (Nat.not_lt_zero _), fun _ h => absurd h (Nat.not_lt_zero _)⟩
theorem tell_next {m : ND} {a : Nat} (h : TellTo m a) (h1 : okNm (m.ks.getD a nd0).nm.data.toList) (h2 : ∀ j, j < a → (m.ks.getD j nd0).nm ≠ (m.ks.getD a nd0).nm) : TellTo m (a + 1) := by
  refine ⟨fun j hj => ?_, fun i hi => ?_⟩
  · by_cases e : j = a
    · rw [e]; exact h1
    · exact h.1 j (by omega)
  · by_cases e : i = a
    · rw [e]; exact h2
    · exact h.2 i (by omega)
theorem tell_all {m : ND} (h : TellTo m m.ks.length) : KidsOk m := by
  refine ⟨fun x hx => ?_, h.2⟩
  obtain ⟨i, hi, rfl⟩ := List.getElem_of_mem hx
  have := h.1 i hi
  rwa [List.getD_eq_getElem?_getD, List.getElem?_eq_getElem hi] at this
theorem spots_ok {n : ND} {L : List SPT} (h : L.map spP = walkR 8 [47] n) (hk : ∀ j, j < L.length → KidsOk (L.getD j spt0).nd) : ∀ i, i < L.length → findR n (L.getD i spt0).pa.data.toList = some (L.getD i spt0).nd := by
  have hin : ∀ q m, (q, m) ∈ walkR 8 [47] n → KidsOk m := fun q m hq => by
    rw [← h] at hq
    obtain ⟨s, hs, e⟩ := List.mem_map.1 hq
    obtain ⟨j, hj, rfl⟩ := List.getElem_of_mem hs
    have := hk j hj
    rw [List.getD_eq_getElem?_getD, List.getElem?_eq_getElem hj] at this
    have e2 : (L[j]).nd = m := congrArg Prod.snd e
    rw [← e2]; exact this
  intro i hi
  refine walk_finds hin _ _ ?_
  rw [← h]
  have e : L.getD i spt0 = L[i] := by rw [List.getD_eq_getElem?_getD, List.getElem?_eq_getElem hi]; rfl
  rw [e]
  exact List.mem_map.2 ⟨L[i], List.getElem_mem hi, rfl⟩
theorem spots_nm {n : ND} {L : List SPT} (hn : nmR 8 n = true) (h : L.map spP = walkR 8 [47] n) : ∀ i, i < L.length → (L.getD i spt0).pa.size ≤ 1000 ∧ ∀ x ∈ (L.getD i spt0).nd.ks, x.nm.size ≤ 100 := fun i hi => by
  have e : L.getD i spt0 = L[i] := by rw [List.getD_eq_getElem?_getD, List.getElem?_eq_getElem hi]; rfl
  obtain ⟨h1, h2⟩ := walk_nm 8 [47] n hn _ _ (by rw [← h]; exact List.mem_map.2 ⟨L[i], List.getElem_mem hi, rfl⟩)
  rw [e]
  have h1 : (L[i]).pa.size ≤ 1 + 101 * 8 := h1
  exact ⟨by omega, h2⟩

set_option maxHeartbeats 6400000 in
set_option maxRecDepth 100000 in
theorem pathWalk_any (M : PathMust) (n : ND) (v2 v3 : Value) (p : ByteArray) (w : World) (hN : NdAt w (fun k => k < w.heap.size) n v2 v3) (hp : p.size ≤ maxLen) :
    Calls Tryd.prog 5 #[.agg #[.string n.nm, v2, v3], .string p] w fun e w' => e = .returned (.bool true) ∧ Below w.heap.size w w' := by
  have HAW := Lib.hid (awake16 M)
  obtain ⟨A, K, pc, kc, rfl, rfl, hpc, hpm, hkc, hkm⟩ := nd_shape hN
  unfold maxLen at hp
  obtain ⟨W1, hW1⟩ : ∃ W1, W1 = w.alloc (.cells #[.string n.nm, .slice A n.ps.length pc, .slice K n.ks.length kc] 34) := ⟨_, rfl⟩
  obtain ⟨g2, hg2⟩ : ∃ g2, g2 = w.heap.size := ⟨_, rfl⟩
  have hB1 : Below w.heap.size w W1 := by rw [hW1]; exact (Below.refl _ _).alloc (Nat.le_refl _) _
  have HA2 : Hid (Arr W1 g2 34 #[.string n.nm, .slice A n.ps.length pc, .slice K n.ks.length kc]) := by unfold Hid; rw [hW1, hg2]; exact Arr.new w _ _
  have HN2 := Lib.hid (nd_below hN hB1)
  have HLOW := Lib.hid (fun W G h => rLow_any G n (.slice A n.ps.length pc) (.slice K n.ks.length kc) W h)
  have HB := Lib.hid hB1
  clear hN hB1 hpc hpm hkc hkm
  cases hl : LowR n with
  | false =>
    rw [hl] at HLOW
    clear M hl
    go_enter Tryd.func5, Tryd.ntmps5
    go_upto_region 1 with fail
    change Code.wp _ _ _ _ (w.alloc (.cells #[.string n.nm, .slice A n.ps.length pc, .slice K n.ks.length kc] 34))
    rw [← hW1, ← hg2]
    clear hW1 hg2
    go_wp2_with (refine wpList_load_row rfl 34 (.tmp 2) rfl g2 rfl _ _ _ _ HA2.out Tryd.underlying34 rfl (infoNd _ _ _) ?_)
    refine (HLOW.out _ _ HN2.out).mono ?_
    rintro e w2 ⟨rfl, hb⟩
    have HB := Lib.hid (HB.out.trans (hb.mono HB.out.size))
    clear hb
    go_wp2_with fail
    refine (HAW.out _).mono ?_
    rintro e w9 ⟨rfl, hb⟩
    have HBZ := Lib.hid (HB.out.trans (hb.mono HB.out.size))
    clear hb
    go_wp2
    go_ret
    exact ⟨rfl, HBZ.out⟩
  | true =>
    rw [hl] at HLOW
    by_cases h200 : 200 < p.size
    · have d1 : decide ((200 : Int) < (p.size : Int)) = true := decide_eq_true (by omega)
      clear M hl h200
      go_enter Tryd.func5, Tryd.ntmps5
      go_upto_region 1 with fail
      change Code.wp _ _ _ _ (w.alloc (.cells #[.string n.nm, .slice A n.ps.length pc, .slice K n.ks.length kc] 34))
      rw [← hW1, ← hg2]
      clear hW1 hg2
      go_wp2_with (refine wpList_load_row rfl 34 (.tmp 2) rfl g2 rfl _ _ _ _ HA2.out Tryd.underlying34 rfl (infoNd _ _ _) ?_)
      refine (HLOW.out _ _ HN2.out).mono ?_
      rintro e w2 ⟨rfl, hb⟩
      have HB := Lib.hid (HB.out.trans (hb.mono HB.out.size))
      clear hb
      go_wp2_with fail
      refine (HAW.out _).mono ?_
      rintro e w9 ⟨rfl, hb⟩
      have HBZ := Lib.hid (HB.out.trans (hb.mono HB.out.size))
      clear hb
      go_wp2
      go_ret
      exact ⟨rfl, HBZ.out⟩
    · have d1 : decide ((200 : Int) < (p.size : Int)) = false := decide_eq_false (by omega)
      have hcn := (sz_count (sz_of_low hl)).2.2.1
      have HNM := nm_of_low 8 12 n (low_and hl).1
      have HP := Lib.hid (fun W => M.parts p W (by omega))
      have HPN := Lib.hid (fun q W h => M.parts q W h)
      have HFI := Lib.hid (fun W G q h1 h => M.find G n (.slice A n.ps.length pc) (.slice K n.ks.length kc) q W hl h1 h)
      have HJ : Hid ((partsR p.data.toList).2 = true → ∀ W A c, RdT W A (baL (partsR p.data.toList).1) → (baL (partsR p.data.toList).1).length ≤ c → Calls Tryd.prog 11 #[.slice A (baL (partsR p.data.toList).1).length c] W fun e w' => e = .returned (.string p) ∧ Below W.heap.size W w') := fun h W A c hr hcc => by
        have := M.join A c _ W hr hcc (by rw [baL_len]; have := parts_few p.data.toList; omega) (baL_each fun x hx => by have := parts_len x hx; have e : p.data.toList.length = p.size := rfl; omega)
        rw [joinB_ba, join_parts (p := p.data.toList) (by rw [← h])] at this
        exact this
      have HWK := Lib.hid (fun W h h' => rWalk_any w.heap.size n (.slice A n.ps.length pc) (.slice K n.ks.length kc) W HNM (by omega) h h')
      have HSNM := Lib.hid (fun (L : List SPT) (h : L.map spP = walkR 8 [47] n) => spots_nm HNM h)
      generalize baL (partsR p.data.toList).1 = PL at *
      generalize (partsR p.data.toList).2 = po at *
      have e_p : (p.toList == p.toList) = true := by simp
      clear M hl h200 HNM hcn
      go_enter Tryd.func5, Tryd.ntmps5
      go_upto_region 1 with fail
      change Code.wp _ _ _ _ (w.alloc (.cells #[.string n.nm, .slice A n.ps.length pc, .slice K n.ks.length kc] 34))
      rw [← hW1, ← hg2]
      clear hW1 hg2
      go_wp2_with (refine wpList_load_row rfl 34 (.tmp 2) rfl g2 rfl _ _ _ _ HA2.out Tryd.underlying34 rfl (infoNd _ _ _) ?_)
      refine (HLOW.out _ _ HN2.out).mono ?_
      rintro e w2 ⟨rfl, hb⟩
      have HA2 := Lib.hid (HA2.out.below hb HA2.out.lt)
      have HN2 := Lib.hid (nd_below HN2.out hb)
      have HB := Lib.hid (HB.out.trans (hb.mono HB.out.size))
      clear hb
      go_wp2_with fail
      refine (HP.out _).mono ?_
      rintro e w3 ⟨AP, cp, rfl, hr, hb, hcp⟩
      have HR := Lib.hid hr
      have HCP := Lib.hid hcp
      have HA2 := Lib.hid (HA2.out.below hb HA2.out.lt)
      have HN2 := Lib.hid (nd_below HN2.out hb)
      have HB := Lib.hid (HB.out.trans (hb.mono HB.out.size))
      clear hb hr HP hcp
      go_upto_region 4 with fail
      go_cut [37] (fun s37 wx => s37 = .bool false ∧ Below w3.heap.size w3 wx)
      case first => as_aux_lemma =>
        cases po with
        | false =>
          go_wp2_with fail
          go_meet
          exact ⟨rfl, Below.refl _ _⟩
        | true =>
          go_wp2_with fail
          refine (HJ.out (by first | exact trivial | rfl) _ _ _ HR.out HCP.out).mono ?_
          rintro e w4 ⟨rfl, hb⟩
          go_wp2_with fail
          go_meet
          exact ⟨rfl, hb⟩
      case rest => as_aux_lemma =>
        obtain ⟨rfl, hb⟩ := hcut
        have HA2 := Lib.hid (HA2.out.below hb HA2.out.lt)
        have HN2 := Lib.hid (nd_below HN2.out hb)
        have HB := Lib.hid (HB.out.trans (hb.mono HB.out.size))
        clear hb HR HJ HCP
        go_wp2_with (refine wpList_load_row rfl 34 (.tmp 2) rfl g2 rfl _ _ _ _ HA2.out Tryd.underlying34 rfl (infoNd _ _ _) ?_)
        refine (HWK.out _ HN2.out HB.out.size).mono ?_
        rintro e w5 ⟨v, L, rfl, ho, hmap, hnd, hb⟩
        obtain ⟨_, cx, ex, hle, hcx, _⟩ := row_form ho
        obtain ⟨AL, cl, rfl, hsp⟩ := row_rdSpt ho
        injection ex with e1 _ ex
        subst e1
        unfold maxLen at hcx
        have HLL : Hid (L.length ≤ 9223372036854775807) := by unfold Hid; omega
        have HSP := Lib.hid hsp
        have HND := Lib.hid hnd
        have HSN := Lib.hid (HSNM.out L hmap)
        have HOK := Lib.hid (fun h => spots_ok hmap h)
        have HA2 := Lib.hid (HA2.out.below hb HA2.out.lt)
        have HN2 := Lib.hid (nd_below HN2.out hb)
        have HB := Lib.hid (HB.out.trans (hb.mono HB.out.size))
        clear hb ho hmap hnd hsp HWK HSNM ex hle hcx
        go_wp2
        go_loopw [8] (fun iv wr => ∃ i : Nat, i ≤ L.length ∧ iv = .int .i64 i ∧ Hid (∀ j, j < i → KidsOk (L.getD j spt0).nd) ∧ Below w5.heap.size w5 wr) (fun iv _ => L.length - (intOf iv).toNat)
        case atStart => exact ⟨0, Nat.zero_le _, rfl, fun j h => absurd h (Nat.not_lt_zero _), Below.refl _ _⟩
        case round =>
          obtain ⟨i, hi, rfl, HKO, hbr⟩ := hrel
          have hll := HLL.out
          by_cases hlt : i < L.length
          · have hii : (i : Int) < L.length := by omega
            obtain ⟨b, off, rfl, q0, q1, q2, q3⟩ := HSP.out.at_ hlt
            have hns := (HSN.out i hlt).2
            have hnd5 := HND.out _ (getD_mem (d := spt0) hlt)
            obtain ⟨PS, KS, pd, kd, ey, ez, hd1, hd2, hd3, hd4⟩ := nd_shape hnd5
            rw [ey, ez] at hnd5
            rw [ez] at q3
            have c3 : wr.cell? ⟨b, off + i * 4 + 3, none⟩ = some (.slice KS (L.getD i spt0).nd.ks.length kd) := (hbr.cell (p := ⟨b, off + i * 4 + 3, none⟩) (World.block_lt_of_cell? w5 _ q3)).trans q3
            have HT : Hid (∀ a, a = (L.getD i spt0).nd.ks.length → TellTo (L.getD i spt0).nd a → ∀ j, j < i + 1 → KidsOk (L.getD j spt0).nd) := fun a ha h j hj => by
              by_cases e : j = i
              · rw [e]; exact tell_all (by rw [← ha]; exact h)
              · exact HKO.out j (by omega)
            generalize (L.getD i spt0).nd = m at *
            have HNS := Lib.hid hns
            have HM5 := Lib.hid hnd5
            have HBR := Lib.hid hbr
            unfold maxLen at hd4
            have HKL : Hid (m.ks.length ≤ 9223372036854775807) := Nat.le_trans hd3 hd4
            clear hd1 hd2 hd3 hd4 hns hnd5 hbr q0 q1 q2 q3 ey ez HKO HFI HOK HSN HND
            go_wp2
            go_loopw [10] (fun av wa => ∃ a : Nat, a ≤ m.ks.length ∧ av = .int .i64 a ∧ Hid (TellTo m a) ∧ Below w5.heap.size w5 wa) (fun av _ => m.ks.length - (intOf av).toNat)
            case atStart => exact ⟨0, Nat.zero_le _, rfl, tell_0 m, HBR.out⟩
            case round =>
              obtain ⟨a, ha, rfl, HTE, hba⟩ := hrel
              have hkl := HKL.out
              clear c3 HBR
              by_cases hat : a < m.ks.length
              · have haa : (a : Int) < m.ks.length := by omega
                have hM := nd_below HM5.out hba
                obtain ⟨bk, ok, x, y, z, rfl, k1, _, _, _, HX⟩ := nd_kid hM hat
                have hxs := HNS.out x (by rw [← HX.out]; exact getD_mem hat)
                have a1 : ∀ W, (Op.stringOp .add ⟨#[47]⟩ x.nm).run Tryd.prog W = .ok (.string ⟨(47 :: x.nm.data.toList).toArray⟩) W := add_str (by simp) (by show 1 + x.nm.size ≤ _; omega)
                have hqs : (⟨(47 :: x.nm.data.toList).toArray⟩ : ByteArray).size ≤ 1000000 := by
                  show (47 :: x.nm.data.toList).toArray.size ≤ _
                  rw [List.size_toArray, List.length_cons]
                  have : x.nm.data.toList.length = x.nm.size := rfl
                  omega
                have HPQ := Lib.hid (fun W => HPN.out _ W hqs)
                have HO : Hid ((partsR (47 :: x.nm.data.toList)).2 = true → (partsR (47 :: x.nm.data.toList)).1.length = 1 → okNm (m.ks.getD a nd0).nm.data.toList) := fun h1 h2 => by
                  rw [HX.out]
                  exact one_part (L := (partsR (47 :: x.nm.data.toList)).1) (by rw [← h1]) h2
                rw [show (⟨(47 :: x.nm.data.toList).toArray⟩ : ByteArray).data.toList = 47 :: x.nm.data.toList by simp, baL_len] at HPQ
                generalize (⟨(47 :: x.nm.data.toList).toArray⟩ : ByteArray) = Q at *
                generalize baL (partsR (47 :: x.nm.data.toList)).1 = QL at *
                generalize (partsR (47 :: x.nm.data.toList)).1.length = ql at *
                generalize (partsR (47 :: x.nm.data.toList)).2 = qo at *
                have HBA := Lib.hid hba
                clear hba hM hqs HPN hxs
                go_wp2_with fail
                refine (HPQ.out _).mono ?_
                rintro e w7 ⟨A7, c7, rfl, _, hb, -⟩
                have HBA := Lib.hid (HBA.out.trans (hb.mono HBA.out.size))
                have k1 : w7.cell? ⟨bk, ok + a * 3, none⟩ = some (.string x.nm) := (hb.cell (p := ⟨bk, ok + a * 3, none⟩) (World.block_lt_of_cell? _ _ k1)).trans k1
                have HBB := Lib.hid (HB.out.trans (HBA.out.mono HB.out.size))
                clear hb HPQ a1
                cases qo with
                | false =>
                  clear HO HTE HX HT HB k1
                  go_wp2_with fail
                  refine (HAW.out _).mono ?_
                  rintro e w9 ⟨rfl, hb⟩
                  have HBZ := Lib.hid (HBB.out.trans (hb.mono HBB.out.size))
                  clear hb
                  go_wp2
                  go_ret
                  exact ⟨rfl, HBZ.out⟩
                | true =>
                  by_cases hq1 : ql = 1
                  · have d5 : ((ql : Int) != 1) = false := by rw [hq1]; rfl
                    have HO1 := Lib.hid (HO.out rfl hq1)
                    clear HO hq1
                    go_wp2_with fail
                    go_loopw [13] (fun cv wc => ∃ c : Nat, c ≤ a ∧ cv = .int .i64 c ∧ Alone m a c ∧ Below w5.heap.size w5 wc) (fun cv _ => a - (intOf cv).toNat)
                    case atStart => exact ⟨0, Nat.zero_le _, rfl, fun j h => absurd h (Nat.not_lt_zero _), HBA.out⟩
                    case round =>
                      obtain ⟨c, hc, rfl, hD, hbc⟩ := hrel
                      have HD := Lib.hid hD
                      clear hD k1 HBA HBB
                      by_cases hca : c < a
                      · have hcc : (c : Int) < a := by omega
                        have hcm : (c : Int) < m.ks.length := by omega
                        have hM := nd_below HM5.out hbc
                        obtain ⟨bk1, ok1, x1, y1, z1, e1, k1, _, _, _, HX1⟩ := nd_kid hM hat
                        have ex : x1 = x := HX1.out.symm.trans HX.out
                        subst ex
                        injection e1 with e1
                        injection e1 with e3 e4 _
                        subst e3 e4
                        obtain ⟨bk2, ok2, x2, y2, z2, e2, k2, _, _, _, HX2⟩ := nd_kid hM (show c < m.ks.length by omega)
                        injection e2 with e2
                        injection e2 with e3 e4 _
                        subst e3 e4
                        have HBC := Lib.hid hbc
                        have HBW := Lib.hid (HB.out.trans (hbc.mono HB.out.size))
                        clear hM hbc HX1
                        by_cases he : x1.nm = x2.nm
                        · have d6 : (x1.nm.toList == x2.nm.toList) = true := by rw [he]; simp
                          clear he HX HX2 HD HO1 HTE HT HB
                          go_upto_region 20 with fail
                          go_quiet (fail)
                          go_wp2_with fail
                          refine (HAW.out _).mono ?_
                          rintro e w9 ⟨rfl, hb⟩
                          have HBZ := Lib.hid ((bel_drewN HBW.out _).trans (hb.mono (bel_drewN HBW.out _).size))
                          clear hb
                          go_wp2
                          go_ret
                          exact ⟨rfl, HBZ.out⟩
                        · have d6 : (x1.nm.toList == x2.nm.toList) = false := by simpa using str_ne12 he
                          have HD1 : Hid (Alone m a (c + 1)) := fun j hj => by
                            by_cases e : j = c
                            · rw [e, HX.out, HX2.out]; exact fun e => he e.symm
                            · exact HD.out j (by omega)
                          clear he HX HX2 HD HTE HT HB
                          go_upto_region 20 with fail
                          go_quiet (fail)
                          go_wp2_with fail
                          go_roundw
                          case rel => exact ⟨c + 1, by omega, by go_num, HD1.out, bel_drewN HBC.out _⟩
                          case measure => simp [intOf]; omega
                      · obtain rfl : c = a := by omega
                        have HTN := Lib.hid (tell_next HTE.out HO1.out HD.out)
                        clear HD HX HTE HO1 HT HB
                        go_wp2_with fail
                        go_roundw
                        case rel => exact ⟨c + 1, by omega, by go_num, HTN.out, hbc⟩
                        case measure => simp [intOf]; omega
                  · have d5 : ((ql : Int) != 1) = true := by simp; omega
                    clear HO HTE HX HT HB k1 hq1
                    go_wp2_with fail
                    refine (HAW.out _).mono ?_
                    rintro e w9 ⟨rfl, hb⟩
                    have HBZ := Lib.hid (HBB.out.trans (hb.mono HBB.out.size))
                    clear hb
                    go_wp2
                    go_ret
                    exact ⟨rfl, HBZ.out⟩
              · obtain rfl : a = m.ks.length := by omega
                have HT1 := Lib.hid (HT.out _ rfl HTE.out)
                clear HT HTE
                go_wp2_with fail
                go_roundw
                case rel => exact ⟨i + 1, by omega, by go_num, HT1.out, hba⟩
                case measure => simp [intOf]; omega
          · obtain rfl : i = L.length := by omega
            have HOK := Lib.hid (HOK.out HKO.out)
            have HBR := Lib.hid hbr
            clear hbr HKO hll HPN
            go_wp2
            go_loopw [14] (fun iv wx => ∃ i : Nat, i ≤ L.length ∧ iv = .int .i64 i ∧ Below w5.heap.size w5 wx) (fun iv _ => L.length - (intOf iv).toNat)
            case atStart => exact ⟨0, Nat.zero_le _, rfl, HBR.out⟩
            case round =>
              clear HBR
              obtain ⟨i, hi, rfl, hbi⟩ := hrel
              have hll := HLL.out
              by_cases hlt : i < L.length
              · have hii : (i : Int) < L.length := by omega
                obtain ⟨b, off, rfl, q0, q1, q2, q3⟩ := HSP.out.at_ hlt
                have hps := (HSN.out i hlt).1
                have hnd5 := HND.out _ (getD_mem (d := spt0) hlt)
                obtain ⟨PS, KS, pd, kd, ey, ez, _, _, _, _⟩ := nd_shape hnd5
                rw [ey, ez] at hnd5
                rw [ey] at q2
                rw [ez] at q3
                have hok := HOK.out i hlt
                have a0 : w5.cell? ⟨g2, 0, none⟩ = some (.string n.nm) := HA2.out.cell 0
                have a1 : w5.cell? ⟨g2, 1, none⟩ = some (.slice A n.ps.length pc) := HA2.out.cell 1
                have a2 : w5.cell? ⟨g2, 2, none⟩ = some (.slice K n.ks.length kc) := HA2.out.cell 2
                have HFQ : Hid (∀ W', Below w5.heap.size w5 W' → Calls Tryd.prog 14 #[.agg #[.string n.nm, .slice A n.ps.length pc, .slice K n.ks.length kc], .string (L.getD i spt0).pa] W' fun e w' => ∃ u2 u3, e = .returned (.tuple #[.agg #[.string (L.getD i spt0).nd.nm, u2, u3], .bool true]) ∧ NdAt w' (fun b => b < w.heap.size ∨ W'.heap.size ≤ b) (L.getD i spt0).nd u2 u3 ∧ Below W'.heap.size W' w') := fun W' h => by
                  have := HFI.out W' _ (L.getD i spt0).pa (by omega) (nd_below HN2.out h)
                  rw [hok] at this
                  exact this
                generalize (L.getD i spt0).nd = y at *
                generalize (L.getD i spt0).pa = pa at *
                have HKP : Hid (∀ W', Below w5.heap.size w5 W' → W'.cell? ⟨g2, 0, none⟩ = some (.string n.nm) ∧ W'.cell? ⟨g2, 1, none⟩ = some (.slice A n.ps.length pc) ∧ W'.cell? ⟨g2, 2, none⟩ = some (.slice K n.ks.length kc) ∧ W'.cell? ⟨b, off + i * 4, none⟩ = some (.string pa)) := fun W' h =>
                  have M := Moved.of_below h (fun _ => False)
                  ⟨cell_kept M id a0, cell_kept M id a1, cell_kept M id a2, cell_kept M id q0⟩
                have HKQ : Hid (∀ W', Below w5.heap.size w5 W' → W'.cell? ⟨b, off + i * 4 + 1, none⟩ = some (.string y.nm) ∧ W'.cell? ⟨b, off + i * 4 + 2, none⟩ = some (.slice PS y.ps.length pd) ∧ W'.cell? ⟨b, off + i * 4 + 3, none⟩ = some (.slice KS y.ks.length kd)) := fun W' h =>
                  have M := Moved.of_below h (fun _ => False)
                  ⟨cell_kept M id q1, cell_kept M id q2, cell_kept M id q3⟩
                have HBI := Lib.hid hbi
                have HMY := Lib.hid hnd5
                have hz : w.heap.size ≤ wr.heap.size := Nat.le_trans HB.out.size hbi.size
                have hbd : Below w5.heap.size w5 wr.drew := hbi.drew
                have hbe : Below w5.heap.size w5 (wr.alloc (.cells #[.string ⟨#[]⟩, .slice none 0 0, .slice none 0 0] 34)).drew := (hbi.alloc hbi.size _).drew
                have HCE : Hid (Arr (wr.alloc (.cells #[.string ⟨#[]⟩, .slice none 0 0, .slice none 0 0] 34)).drew wr.heap.size 34 #[.string ⟨#[]⟩, .slice none 0 0, .slice none 0 0]) := Arr.new wr _ _
                have hsz : ((wr.alloc (.cells #[.string ⟨#[]⟩, .slice none 0 0, .slice none 0 0] 34)).drew).heap.size = wr.heap.size + 1 := sz_alloc _ _
                have HAQ : Hid (∀ (w7 : World) (ua : Option Addr) (uc : Nat) (ub : Option Addr) (ud : Nat), NdAt w7 (fun b => b < w.heap.size ∨ wr.drew.heap.size ≤ b) y (.slice ua y.ps.length uc) (.slice ub y.ks.length ud) → Below wr.drew.heap.size wr.drew w7 → Below w5.heap.size w5 w7 ∧ Below w5.heap.size w5 (w7.alloc (.cells #[.string ⟨#[]⟩, .slice none 0 0, .slice none 0 0] 34)) ∧ Below w5.heap.size w5 (w7.alloc (.cells #[.string y.nm, .slice ua y.ps.length uc, .slice ub y.ks.length ud] 34)) ∧
                    Arr (w7.alloc (.cells #[.string y.nm, .slice ua y.ps.length uc, .slice ub y.ks.length ud] 34)) w7.heap.size 34 #[.string y.nm, .slice ua y.ps.length uc, .slice ub y.ks.length ud] ∧ NdAt (w7.alloc (.cells #[.string y.nm, .slice ua y.ps.length uc, .slice ub y.ks.length ud] 34)) (fun _ => True) y (.slice ua y.ps.length uc) (.slice ub y.ks.length ud) ∧ Below w5.heap.size w5 (w7.alloc (.cells #[.string y.nm, .slice ua y.ps.length uc, .slice ub y.ks.length ud] 34))) := fun w7 ua uc ub ud hk hb => by
                  have h0 : Below w5.heap.size w5 w7 := hbd.trans (hb.mono hbd.size)
                  have h2 : Below w7.heap.size w7 (w7.alloc (.cells #[.string y.nm, .slice ua y.ps.length uc, .slice ub y.ks.length ud] 34)) := (Below.refl _ _).alloc (Nat.le_refl _) _
                  have h3 : Below w5.heap.size w5 (w7.alloc (.cells #[.string y.nm, .slice ua y.ps.length uc, .slice ub y.ks.length ud] 34)) := h0.trans (h2.mono h0.size)
                  exact ⟨h0, h0.alloc h0.size _, h3, Arr.new w7 _ _, (nd_below hk h2).mono (fun _ _ => trivial), h3⟩
                have HBQ : Hid (∀ (w7 : World) (ua : Option Addr) (uc : Nat) (ub : Option Addr) (ud : Nat), NdAt w7 (fun b => b < w.heap.size ∨ ((wr.alloc (.cells #[.string ⟨#[]⟩, .slice none 0 0, .slice none 0 0] 34)).drew).heap.size ≤ b) y (.slice ua y.ps.length uc) (.slice ub y.ks.length ud) → Below ((wr.alloc (.cells #[.string ⟨#[]⟩, .slice none 0 0, .slice none 0 0] 34)).drew).heap.size (wr.alloc (.cells #[.string ⟨#[]⟩, .slice none 0 0, .slice none 0 0] 34)).drew w7 → Below w5.heap.size w5 w7 ∧
                    w7.cell? ⟨wr.heap.size, 0, none⟩ = some (.string ⟨#[]⟩) ∧ w7.cell? ⟨wr.heap.size, 1, none⟩ = some (.slice none 0 0) ∧ w7.cell? ⟨wr.heap.size, 2, none⟩ = some (.slice none 0 0) ∧ w7.frozen? ⟨wr.heap.size, 0, none⟩ = false ∧ w7.frozen? ⟨wr.heap.size, 1, none⟩ = false ∧ w7.frozen? ⟨wr.heap.size, 2, none⟩ = false ∧ Below w5.heap.size w5 ((((w7).setCell ⟨wr.heap.size, 0, none⟩ (.string y.nm)).setCell ⟨wr.heap.size, 1, none⟩ (.slice ua y.ps.length uc)).setCell ⟨wr.heap.size, 2, none⟩ (.slice ub y.ks.length ud)) ∧
                    Arr ((((w7).setCell ⟨wr.heap.size, 0, none⟩ (.string y.nm)).setCell ⟨wr.heap.size, 1, none⟩ (.slice ua y.ps.length uc)).setCell ⟨wr.heap.size, 2, none⟩ (.slice ub y.ks.length ud)) wr.heap.size 34 #[.string y.nm, .slice ua y.ps.length uc, .slice ub y.ks.length ud] ∧ NdAt ((((w7).setCell ⟨wr.heap.size, 0, none⟩ (.string y.nm)).setCell ⟨wr.heap.size, 1, none⟩ (.slice ua y.ps.length uc)).setCell ⟨wr.heap.size, 2, none⟩ (.slice ub y.ks.length ud)) (fun _ => True) y (.slice ua y.ps.length uc) (.slice ub y.ks.length ud) ∧ Below w5.heap.size w5 ((((w7).setCell ⟨wr.heap.size, 0, none⟩ (.string y.nm)).setCell ⟨wr.heap.size, 1, none⟩ (.slice ua y.ps.length uc)).setCell ⟨wr.heap.size, 2, none⟩ (.slice ub y.ks.length ud))) := fun w7 ua uc ub ud hk hb => by
                  have hA := HCE.out.below hb HCE.out.lt
                  have h0 : Below w5.heap.size w5 w7 := hbe.trans (hb.mono hbe.size)
                  have h3 : Below w5.heap.size w5 ((((w7).setCell ⟨wr.heap.size, 0, none⟩ (.string y.nm)).setCell ⟨wr.heap.size, 1, none⟩ (.slice ua y.ps.length uc)).setCell ⟨wr.heap.size, 2, none⟩ (.slice ub y.ks.length ud)) := ((h0.setCell HBI.out.size _).setCell HBI.out.size _).setCell HBI.out.size _
                  have M : Moved w7 ((((w7).setCell ⟨wr.heap.size, 0, none⟩ (.string y.nm)).setCell ⟨wr.heap.size, 1, none⟩ (.slice ua y.ps.length uc)).setCell ⟨wr.heap.size, 2, none⟩ (.slice ub y.ks.length ud)) (fun k => k = wr.heap.size) (fun k => k = wr.heap.size) := ((Moved.grown (gr_cell w7 wr.heap.size 0 _) (fun k hk => by injection hk with hk; exact hk.symm) (fun k hk => .inl hk)).trans (Moved.grown (gr_cell _ wr.heap.size 1 _) (fun k hk => by injection hk with hk; exact hk.symm) (fun k hk => .inl hk))).trans (Moved.grown (gr_cell _ wr.heap.size 2 _) (fun k hk => by injection hk with hk; exact hk.symm) (fun k hk => .inl hk))
                  exact ⟨h0, hA.cell 0, hA.cell 1, hA.cell 2, hA.frozen 0, hA.frozen 1, hA.frozen 2, h3, ((hA.put 0 _).put 1 _).put 2 _, (hk.kept M (fun k hg e => by rw [hsz] at hg; omega)).mono (fun _ _ => trivial), h3⟩
                clear hbi hnd5 hok ey ez hps q0 q1 q2 q3 a0 a1 a2
                have k0 := HKP.out _ HBI.out
                obtain ⟨a0, a1, a2, q0⟩ := k0
                go_upto_region 25 with fail
                go_cut [15, 16] (fun s15 s16 wx => ∃ (g9 : Nat) (ua : Option Addr) (uc : Nat) (ub : Option Addr) (ud : Nat), s15 = .pointer (some ⟨g9, 0, none⟩) ∧ s16 = .bool true ∧ Arr wx g9 34 #[.string y.nm, .slice ua y.ps.length uc, .slice ub y.ks.length ud] ∧ NdAt wx (fun _ => True) y (.slice ua y.ps.length uc) (.slice ub y.ks.length ud) ∧ Below w5.heap.size w5 wx)
                case first => as_aux_lemma =>
                  refine wp_region_held_drew (S := fun (W' : World) => W'.cell? ⟨g2, 0, none⟩ = some (.string n.nm) ∧ W'.cell? ⟨g2, 1, none⟩ = some (.slice A n.ps.length pc) ∧ W'.cell? ⟨g2, 2, none⟩ = some (.slice K n.ks.length kc) ∧ W'.cell? ⟨b, off + i * 4, none⟩ = some (.string pa)) (by kernel_rfl) (by exact HKP.out _ hbd) (fun hHeld => ?_)
                  refine takeH 0 100 rfl rfl (v := ?_) (by kernel_rfl) (by kernel_rfl) (by kernel_rfl) (fun _ _ _ h => h) (Or.inl ⟨by rfl, ?_⟩) hHeld ?_
                  rotate_left 1
                  · (intro w hSw; (try dsimp only at hSw); go_simp; try (with_reducible rfl))
                  (try simp only [Act.put]); (try simp only [List.setIfInBounds_toArray]); (try simp only [List.set_cons_succ]); (try simp only [List.set_cons_zero])
                  refine takeH 1 101 rfl rfl (v := ?_) (by kernel_rfl) (by kernel_rfl) (by kernel_rfl) (fun _ _ _ h => h) (Or.inl ⟨by rfl, ?_⟩) hHeld ?_
                  rotate_left 1
                  · (intro w hSw; (try dsimp only at hSw); go_simp; try (with_reducible rfl))
                  (try simp only [Act.put]); (try simp only [List.setIfInBounds_toArray]); (try simp only [List.set_cons_succ]); (try simp only [List.set_cons_zero])
                  refine takeH 2 102 rfl rfl (v := ?_) (by kernel_rfl) (by kernel_rfl) (by kernel_rfl) (fun _ _ _ h => h) (Or.inl ⟨by rfl, ?_⟩) hHeld ?_
                  rotate_left 1
                  · (intro w hSw; (try dsimp only at hSw); go_simp; try (with_reducible rfl))
                  (try simp only [Act.put]); (try simp only [List.setIfInBounds_toArray]); (try simp only [List.set_cons_succ]); (try simp only [List.set_cons_zero])
                  refine takeH 3 103 rfl rfl (v := ?_) (by kernel_rfl) (by kernel_rfl) (by kernel_rfl) (fun _ _ _ h => h) (Or.inl ⟨by rfl, ?_⟩) hHeld ?_
                  rotate_left 1
                  · (intro w hSw; (try dsimp only at hSw); go_simp; try (with_reducible rfl))
                  (try simp only [Act.put]); (try simp only [List.setIfInBounds_toArray]); (try simp only [List.set_cons_succ]); (try simp only [List.set_cons_zero])
                  refine takeH 4 104 rfl rfl (v := ?_) (by kernel_rfl) (by kernel_rfl) (by kernel_rfl) (fun _ _ _ h => h) (Or.inl ⟨by rfl, ?_⟩) hHeld ?_
                  rotate_left 1
                  · (intro w hSw; (try dsimp only at hSw); go_simp; try (with_reducible rfl))
                  (try simp only [Act.put]); (try simp only [List.setIfInBounds_toArray]); (try simp only [List.set_cons_succ]); (try simp only [List.set_cons_zero])
                  refine takeH 5 105 rfl rfl (v := ?_) (by kernel_rfl) (by kernel_rfl) (by kernel_rfl) (fun _ _ _ h => h) (Or.inl ⟨by rfl, ?_⟩) hHeld ?_
                  rotate_left 1
                  · (intro w hSw; (try dsimp only at hSw); go_simp; try (with_reducible rfl))
                  (try simp only [Act.put]); (try simp only [List.setIfInBounds_toArray]); (try simp only [List.set_cons_succ]); (try simp only [List.set_cons_zero])
                  refine wpAnyH_ready (rs := [6, 10]) (by kernel_rfl) (by simp) (AllReadyH.cons rfl (fun K hK => ?_) (AllReadyH.cons rfl (fun K hK => ?_) AllReadyH.nil))
                  · go_simp
                    refine (HFQ.out _ hbd).mono ?_
                    rintro e w7 ⟨u2, u3, rfl, hk7, s1⟩
                    obtain ⟨ua, ub, uc, ud, rfl, rfl, _⟩ := nd_shape hk7
                    obtain ⟨z1, z2, z3, z4⟩ := HAQ.out w7 ua uc ub ud hk7 s1
                    (try dsimp only)
                    refine hK.out _ _ (by exact HKP.out _ z1) (fun hHeld => ?_)
                    clear hK K
                    (try simp only [Act.put]); (try simp only [List.setIfInBounds_toArray]); (try simp only [List.set_cons_succ]); (try simp only [List.set_cons_zero])
                    refine takeH 7 99 rfl rfl (v := ?_) (by kernel_rfl) (by kernel_rfl) (by kernel_rfl) (fun _ _ _ h => h) (Or.inl ⟨by rfl, ?_⟩) hHeld ?_
                    rotate_left 1
                    · (intro w hSw; (try dsimp only at hSw); go_simp; try (with_reducible rfl))
                    (try simp only [Act.put]); (try simp only [List.setIfInBounds_toArray]); (try simp only [List.set_cons_succ]); (try simp only [List.set_cons_zero])
                    refine takeH 8 107 rfl rfl (v := ?_) (by kernel_rfl) (by kernel_rfl) (by kernel_rfl) (fun _ _ _ h => h) (Or.inl ⟨by rfl, ?_⟩) hHeld ?_
                    rotate_left 1
                    · (intro w hSw; (try dsimp only at hSw); go_simp; try (with_reducible rfl))
                    (try simp only [Act.put]); (try simp only [List.setIfInBounds_toArray]); (try simp only [List.set_cons_succ]); (try simp only [List.set_cons_zero])
                    refine takeH 9 108 rfl rfl (v := ?_) (by kernel_rfl) (by kernel_rfl) (by kernel_rfl) (fun _ _ _ h => h) (Or.inl ⟨by rfl, ?_⟩) hHeld ?_
                    rotate_left 1
                    · (intro w hSw; (try dsimp only at hSw); go_simp; try (with_reducible rfl))
                    (try simp only [Act.put]); (try simp only [List.setIfInBounds_toArray]); (try simp only [List.set_cons_succ]); (try simp only [List.set_cons_zero])
                    refine wpAnyH_ready (rs := [10]) (by kernel_rfl) (by simp) (AllReadyH.cons rfl (fun K hK => ?_) AllReadyH.nil)
                    go_simp
                    refine hK.out _ _ (by exact HKP.out _ z2) (fun hHeld => ?_)
                    clear hK K
                    (try simp only [Act.put]); (try simp only [List.setIfInBounds_toArray]); (try simp only [List.set_cons_succ]); (try simp only [List.set_cons_zero])
                    refine wpAnyH_ready (rs := [11]) (by kernel_rfl) (by simp) (AllReadyH.cons rfl (fun K hK => ?_) AllReadyH.nil)
                    go_simp
                    refine hK.out _ _ (by exact HKP.out _ z3) (fun hHeld => ?_)
                    clear hK K
                    (try simp only [Act.put]); (try simp only [List.setIfInBounds_toArray]); (try simp only [List.set_cons_succ]); (try simp only [List.set_cons_zero])
                    refine wpAnyH_ready (rs := [12]) (by kernel_rfl) (by simp) (AllReadyH.cons rfl (fun K hK => ?_) AllReadyH.nil)
                    go_simp
                    refine hK.out _ _ (by exact HKP.out _ z3) (fun hHeld => ?_)
                    clear hK K
                    (try simp only [Act.put]); (try simp only [List.setIfInBounds_toArray]); (try simp only [List.set_cons_succ]); (try simp only [List.set_cons_zero])
                    refine wpAnyH_done (by kernel_rfl) ?_ _
                    have HE := Lib.hid z4
                    go_wp2_with fail
                    go_meet
                    exact ⟨_, _, _, _, _, rfl, rfl, HE.out⟩
                  · go_simp
                    refine hK.out _ _ (by exact HKP.out _ hbe) (fun hHeld => ?_)
                    clear hK K
                    (try simp only [Act.put]); (try simp only [List.setIfInBounds_toArray]); (try simp only [List.set_cons_succ]); (try simp only [List.set_cons_zero])
                    refine wpAnyH_ready (rs := [6]) (by kernel_rfl) (by simp) (AllReadyH.cons rfl (fun K hK => ?_) AllReadyH.nil)
                    go_simp
                    refine (HFQ.out _ hbe).mono ?_
                    rintro e w7 ⟨u2, u3, rfl, hk7, s1⟩
                    obtain ⟨ua, ub, uc, ud, rfl, rfl, _⟩ := nd_shape hk7
                    obtain ⟨z1, e0, e1, e2, f0, f1, f2, z3, z4⟩ := HBQ.out w7 ua uc ub ud hk7 s1
                    (try dsimp only)
                    refine hK.out _ _ (by exact HKP.out _ z1) (fun hHeld => ?_)
                    clear hK K
                    (try simp only [Act.put]); (try simp only [List.setIfInBounds_toArray]); (try simp only [List.set_cons_succ]); (try simp only [List.set_cons_zero])
                    refine takeH 7 99 rfl rfl (v := ?_) (by kernel_rfl) (by kernel_rfl) (by kernel_rfl) (fun _ _ _ h => h) (Or.inl ⟨by rfl, ?_⟩) hHeld ?_
                    rotate_left 1
                    · (intro w hSw; (try dsimp only at hSw); go_simp; try (with_reducible rfl))
                    (try simp only [Act.put]); (try simp only [List.setIfInBounds_toArray]); (try simp only [List.set_cons_succ]); (try simp only [List.set_cons_zero])
                    refine takeH 8 107 rfl rfl (v := ?_) (by kernel_rfl) (by kernel_rfl) (by kernel_rfl) (fun _ _ _ h => h) (Or.inl ⟨by rfl, ?_⟩) hHeld ?_
                    rotate_left 1
                    · (intro w hSw; (try dsimp only at hSw); go_simp; try (with_reducible rfl))
                    (try simp only [Act.put]); (try simp only [List.setIfInBounds_toArray]); (try simp only [List.set_cons_succ]); (try simp only [List.set_cons_zero])
                    refine takeH 9 108 rfl rfl (v := ?_) (by kernel_rfl) (by kernel_rfl) (by kernel_rfl) (fun _ _ _ h => h) (Or.inl ⟨by rfl, ?_⟩) hHeld ?_
                    rotate_left 1
                    · (intro w hSw; (try dsimp only at hSw); go_simp; try (with_reducible rfl))
                    (try simp only [Act.put]); (try simp only [List.setIfInBounds_toArray]); (try simp only [List.set_cons_succ]); (try simp only [List.set_cons_zero])
                    refine wpAnyH_ready (rs := [11]) (by kernel_rfl) (by simp) (AllReadyH.cons rfl (fun K hK => ?_) AllReadyH.nil)
                    go_simp
                    refine hK.out _ _ (by exact HKP.out _ z3) (fun hHeld => ?_)
                    clear hK K
                    (try simp only [Act.put]); (try simp only [List.setIfInBounds_toArray]); (try simp only [List.set_cons_succ]); (try simp only [List.set_cons_zero])
                    refine wpAnyH_ready (rs := [12]) (by kernel_rfl) (by simp) (AllReadyH.cons rfl (fun K hK => ?_) AllReadyH.nil)
                    go_simp
                    refine hK.out _ _ (by exact HKP.out _ z3) (fun hHeld => ?_)
                    clear hK K
                    (try simp only [Act.put]); (try simp only [List.setIfInBounds_toArray]); (try simp only [List.set_cons_succ]); (try simp only [List.set_cons_zero])
                    refine wpAnyH_done (by kernel_rfl) ?_ _
                    have HE := Lib.hid z4
                    go_wp2_with fail
                    go_meet
                    exact ⟨_, _, _, _, _, rfl, rfl, HE.out⟩
                case rest => as_aux_lemma =>
                  obtain ⟨g9, ua, uc, ub, ud, rfl, rfl, R1, R2, R3⟩ := hcut
                  clear HFQ HKP HAQ HBQ HCE hbd hbe hsz a0 a1 a2 q0
                  have hM := nd_below HMY.out R3
                  have HSA : Hid (∀ W', Below wc.heap.size wc W' → Calls Tryd.prog 18 #[.agg #[.string y.nm, .slice ua y.ps.length uc, .slice ub y.ks.length ud], .agg #[.string y.nm, .slice PS y.ps.length pd, .slice KS y.ks.length kd]] W' fun e w' => e = .returned (.bool true) ∧ Below wc.heap.size wc w') := fun W' h =>
                    (rSame_any _ _ _ _ _ _ _ _ W' (nd_below R2 h) (nd_below hM h)).mono fun e w' ⟨h1, h2⟩ => ⟨by rw [h1, sameR_refl], h.trans (h2.mono h.size)⟩
                  have HKR : Hid (∀ W', Below wc.heap.size wc W' → (W'.cell? ⟨g9, 0, none⟩ = some (.string y.nm) ∧ W'.cell? ⟨g9, 1, none⟩ = some (.slice ua y.ps.length uc) ∧ W'.cell? ⟨g9, 2, none⟩ = some (.slice ub y.ks.length ud) ∧ W'.cell? ⟨b, off + i * 4 + 1, none⟩ = some (.string y.nm) ∧ W'.cell? ⟨b, off + i * 4 + 2, none⟩ = some (.slice PS y.ps.length pd) ∧ W'.cell? ⟨b, off + i * 4 + 3, none⟩ = some (.slice KS y.ks.length kd)) ∧ Below wc.heap.size wc W') := fun W' h =>
                    have hA := R1.below h R1.lt
                    have hQ := HKQ.out W' (R3.trans (h.mono R3.size))
                    ⟨⟨hA.cell 0, hA.cell 1, hA.cell 2, hQ.1, hQ.2.1, hQ.2.2⟩, h⟩
                  have HR3 := Lib.hid R3
                  have hbd : Below wc.heap.size wc wc.drew := (Below.refl _ _).drew
                  clear hM R1 R2 R3 HKQ
                  go_upto_region 26 with fail
                  go_cut [120] (fun s120 wx => s120 = .bool false ∧ Below wc.heap.size wc wx)
                  case first => as_aux_lemma =>
                    go_region_held3 (fun W' => (W'.cell? ⟨g9, 0, none⟩ = some (.string y.nm) ∧ W'.cell? ⟨g9, 1, none⟩ = some (.slice ua y.ps.length uc) ∧ W'.cell? ⟨g9, 2, none⟩ = some (.slice ub y.ks.length ud) ∧ W'.cell? ⟨b, off + i * 4 + 1, none⟩ = some (.string y.nm) ∧ W'.cell? ⟨b, off + i * 4 + 2, none⟩ = some (.slice PS y.ps.length pd) ∧ W'.cell? ⟨b, off + i * 4 + 3, none⟩ = some (.slice KS y.ks.length kd)) ∧ Below wc.heap.size wc W') (exact HKR.out _ (by assumption)) (first | (go_at_call 18; with_reducible refine (HSA.out _ (by assumption)).mono ?_; rintro e w8 ⟨rfl, s1⟩))
                    all_goals (go_wp2_with fail; go_meet; exact ⟨rfl, by assumption⟩)
                  case rest => as_aux_lemma =>
                    obtain ⟨rfl, hbx⟩ := hcut
                    have HBX := Lib.hid (HR3.out.trans (hbx.mono HR3.out.size))
                    clear hbx HSA HKR hbd
                    go_wp2_with fail
                    go_roundw
                    case rel => exact ⟨i + 1, by omega, by go_num, HBX.out⟩
                    case measure => simp [intOf]; omega
              · obtain rfl : i = L.length := by omega
                have HBW := Lib.hid (HB.out.trans (hbi.mono HB.out.size))
                clear hbi HOK HSP HND HSN
                go_wp2_with fail
                refine (HAW.out _).mono ?_
                rintro e w9 ⟨rfl, hb⟩
                have HBZ := Lib.hid (HBW.out.trans (hb.mono HBW.out.size))
                clear hb
                go_wp2
                go_ret
                exact ⟨rfl, HBZ.out⟩
end Go.Proofs.YtjphecfkjpfkeaaDoor
