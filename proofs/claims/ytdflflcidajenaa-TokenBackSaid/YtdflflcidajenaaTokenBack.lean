/- The law TokenBack: whatever comes in it returns true. Conditions: the contracts of package token; a slice that reads as tokens, with kinds of 64 bits; strings that fit. -/
import Derived.Test.YtdflflcidajenaaTkI
import Derived.Deep.DeepCutAuto
namespace Go.Proofs.Ytdflflcidajenaa
open Go.RowKit

theorem getD_mem {l : List TK} {k : Nat} (hk : k < l.length) : l.getD k tk0 ∈ l := by
  rw [List.getD_eq_getElem?_getD, List.getElem?_eq_getElem hk]; exact List.getElem_mem _
theorem mem_getD {l : List TK} {x : TK} (h : x ∈ l) : ∃ k, k < l.length ∧ l.getD k tk0 = x := by
  obtain ⟨k, hk, rfl⟩ := List.getElem_of_mem h
  exact ⟨k, hk, by rw [List.getD_eq_getElem?_getD, List.getElem?_eq_getElem hk]; rfl⟩
theorem map_bare_getD {l : List TK} {k : Nat} (hk : k < l.length) : (l.map bare).getD k tk0 = bare (l.getD k tk0) := by
  simp [List.getD_eq_getElem?_getD, hk]
/-- What is put without an error. -/
theorem put_ok {l : List TK} (h : (putR l).2.2 = 0) : l.length < 1024 ∧ l.all okT = true := by
  unfold putR at h
  split at h
  · cases h
  · split at h
    · exact ⟨by omega, ‹_›⟩
    · cases h
theorem put_read {l : List TK} (hv : ∀ x ∈ l, x.vl.size ≤ 1048576) (h : (putR l).2.2 = 0) :
    readR 1024 (putR l).1.data.toList (putR l).2.1.data.toList = (l.map bare, 0) ∧ (putR l).1.size ≤ 1099511627776 ∧ (putR l).2.1.size ≤ 1099511627776 := by
  obtain ⟨h1, h2⟩ := put_ok h
  have hall := List.all_eq_true.1 h2
  rw [putR_good (by omega) h2]
  simp only
  have hB := okL_putB l okL_nil
  have hlen := putB_len l []
  have hfl := flat_le hB
  have hps := putS_le l [] (fun x hx => ⟨hall x hx, hv x hx⟩)
  simp only [List.length_nil] at hlen
  refine ⟨readR_put l [] 1024 h1 hB (by omega) (fun x hx => ⟨hall x hx, by have := hv x hx; omega⟩), ?_, ?_⟩
  · rw [size_mk, List.length_append, big_len]; omega
  · rw [size_mk]; omega
/-- What is read may be put. -/
theorem read_put {s t : List UInt8} {r : List TK} (hs : s.length ≤ 1048576) (h : readR 1024 s t = (r, 0)) :
    (putR r).2.2 = 0 ∧ r.map bare = r ∧ (∀ k, k < r.length → (r.getD k tk0).nm.size ≤ 1048576 ∧ (r.getD k tk0).vl.size ≤ 1048576) ∧ (∀ k, k < r.length → (r.getD k tk0).kd < 9223372036854775808 ∧ -9223372036854775808 ≤ (r.getD k tk0).kd) ∧ (∀ x ∈ r, x.vl.size ≤ 1048576) ∧ r.length < 1024 := by
  obtain ⟨h1, h2⟩ := readR_ok 1024 s t r h
  have hall : r.all okT = true := List.all_eq_true.2 (fun x hx => (h2 x hx).1)
  have hone : ∀ x ∈ r, x.nm.size ≤ 1048576 ∧ x.vl.size ≤ 1048576 ∧ x.kd < 9223372036854775808 ∧ -9223372036854775808 ≤ x.kd := by
    intro x hx
    obtain ⟨g1, g2, g3⟩ := h2 x hx
    unfold okT at g1
    by_cases k1 : x.kd = 1
    · rw [if_pos k1] at g1
      unfold nodeB at g1
      have : x.nm.size ≤ 31 := by
        rcases Bool.or_eq_true_iff.1 g1 with h | h
        · have := of_decide_eq_true h; omega
        · exact (mayB_iff.1 h).2.1
      omega
    · rw [if_neg k1] at g1
      by_cases k3 : x.kd = 3
      · rw [if_pos k3] at g1
        have := (mayB_iff.1 g1).2.1
        omega
      · rw [if_neg k3] at g1
        have k24 : x.kd = 2 ∨ x.kd = 4 := of_decide_eq_true g1
        unfold bare at g2
        rw [if_neg k1, if_neg k3] at g2
        have : x.nm.size = 0 := by rw [← g2]; rfl
        omega
  refine ⟨by rw [putR_good (by omega) hall], ?_, fun k hk => ⟨(hone _ (getD_mem hk)).1, (hone _ (getD_mem hk)).2.1⟩, fun k hk => (hone _ (getD_mem hk)).2.2, fun x hx => (hone x hx).2.1, h1⟩
  have : ∀ q : List TK, (∀ x ∈ q, bare x = x) → q.map bare = q := by
    intro q
    induction q with
    | nil => intro _; rfl
    | cons x q ih => intro hq; rw [List.map_cons, hq x (by simp), ih (fun y hy => hq y (by simp [hy]))]
  exact this r (fun x hx => (h2 x hx).2.1)

set_option maxHeartbeats 6400000 in
set_option maxRecDepth 100000 in
theorem tokenBack_any (H : TokMust) (A : Option Addr) (cap : Nat) (l : List TK) (s t : ByteArray) (w : World) (hr : RdTk w A l) (hl : l.length ≤ maxLen) (hc : l.length ≤ cap) (hcm : cap ≤ maxLen) (hk : ∀ k, k < l.length → (l.getD k tk0).kd < 9223372036854775808 ∧ -9223372036854775808 ≤ (l.getD k tk0).kd) (hs : s.size ≤ maxLen) (ht : t.size ≤ maxLen) :
    Calls Try.prog 5 #[.slice A l.length cap, .string s, .string t] w fun e w' => e = .returned (.bool true) ∧ Below w.heap.size w w' := by
  have HAW := Lib.hid (awake10 H)
  have HFEW := Lib.hid (rfew10_any A cap l w hr hl)
  unfold maxLen at hs ht
  have HR := Lib.hid hr
  clear hr
  by_cases hbad : few10 l = false ∨ 1024 < s.size ∨ 1024 < t.size
  · cases hf : few10 l with
    | false =>
      rw [hf] at HFEW
      clear hf H hbad hk
      go_enter Try.func5, Try.ntmps5
      go_wp2_with fail
      refine HFEW.out.mono ?_
      rintro e w1 ⟨rfl, rfl⟩
      go_wp2_with fail
      refine (HAW.out _).mono ?_
      rintro e w1 ⟨rfl, hb⟩
      go_wp2
      go_ret
      exact ⟨rfl, hb⟩
    | true =>
      rw [hf] at HFEW hbad
      by_cases h1 : 1024 < s.size
      · have d1 : decide ((1024 : Int) < s.size) = true := decide_eq_true (by omega)
        clear hf H hbad hk h1
        go_enter Try.func5, Try.ntmps5
        go_wp2_with fail
        refine HFEW.out.mono ?_
        rintro e w1 ⟨rfl, rfl⟩
        go_wp2_with fail
        refine (HAW.out _).mono ?_
        rintro e w1 ⟨rfl, hb⟩
        go_wp2
        go_ret
        exact ⟨rfl, hb⟩
      · have d1 : decide ((1024 : Int) < s.size) = false := decide_eq_false (by omega)
        have h2 : 1024 < t.size := by
          rcases hbad with h | h | h
          · cases h
          · omega
          · exact h
        have d2 : decide ((1024 : Int) < t.size) = true := decide_eq_true (by omega)
        clear hf H hbad hk h1 h2
        go_enter Try.func5, Try.ntmps5
        go_wp2_with fail
        refine HFEW.out.mono ?_
        rintro e w1 ⟨rfl, rfl⟩
        go_wp2_with fail
        refine (HAW.out _).mono ?_
        rintro e w1 ⟨rfl, hb⟩
        go_wp2
        go_ret
        exact ⟨rfl, hb⟩
  have hf : few10 l = true := by cases h : few10 l with
    | false => exact absurd (.inl h) hbad
    | true => rfl
  have h1 : ¬ 1024 < s.size := fun h => hbad (.inr (.inl h))
  have h2 : ¬ 1024 < t.size := fun h => hbad (.inr (.inr h))
  have d1 : decide ((1024 : Int) < s.size) = false := decide_eq_false (by omega)
  have d2 : decide ((1024 : Int) < t.size) = false := decide_eq_false (by omega)
  rw [hf] at HFEW
  obtain ⟨h60, hsz⟩ := few10_len hf
  have hz : ∀ k, k < l.length → (l.getD k tk0).nm.size ≤ 1048576 ∧ (l.getD k tk0).vl.size ≤ 1048576 := fun k hk => by have := hsz k hk; omega
  have hv : ∀ x ∈ l, x.vl.size ≤ 1048576 := fun x hx => by
    obtain ⟨k, hk, rfl⟩ := mem_getD hx
    exact (hz k hk).2
  have HP1 := Lib.hid (H.put A cap l w HR.out hc hcm hz hk)
  have HPR := Lib.hid (put_read hv)
  have HX := Lib.hid (fun W => H.read s t W (by omega) (by omega))
  have HBADR := Lib.hid (readR_bad 1024 s.data.toList t.data.toList)
  have hsl : s.data.toList.length ≤ 1048576 := by show s.size ≤ _; omega
  have HRP := Lib.hid (fun r => read_put (s := s.data.toList) (t := t.data.toList) (r := r) hsl)
  generalize readR 1024 s.data.toList t.data.toList = RX at *
  obtain ⟨r, ev⟩ := RX
  simp only at HX HBADR
  have HTWO : Hid (ev = 0 → ∃ c d : ByteArray, (∀ (W : World) (B : Option Addr) (cap : Nat), RdTk W B r → r.length ≤ cap → cap ≤ maxLen → Calls Try.prog 8 #[.slice B r.length cap] W fun e w' => e = .returned (.tuple #[.string c, .string d, .int .i64 0]) ∧ Below W.heap.size W w') ∧ (∀ W, Calls Try.prog 13 #[.string c, .string d] W fun e w' => ∃ v, e = .returned (.tuple #[v, .int .i64 0]) ∧ Ret10 w' v r ∧ Below W.heap.size W w') ∧ r.length < 1024) := by
    intro h0
    subst h0
    obtain ⟨g1, g2, g3, g4, g5, g6⟩ := HRP.out r rfl
    obtain ⟨q1, q2, q3⟩ := put_read g5 g1
    refine ⟨(putR r).1, (putR r).2.1, fun W B cap hW hc1 hc2 => ?_, fun W => ?_, g6⟩
    · have := H.put B cap r W hW hc1 hc2 g3 g4
      rw [g1] at this
      exact this
    · have := H.read (putR r).1 (putR r).2.1 W q2 q3
      rw [q1, g2] at this
      exact this
  have HRD := Lib.hid (fun (a b : ByteArray) (W : World) (ha : a.size ≤ 1099511627776) (hb : b.size ≤ 1099511627776) => H.read a b W ha hb)
  generalize putR l = R at *
  obtain ⟨ps, pt, pe⟩ := R
  simp only at HP1 HPR
  clear hf hbad h1 h2 hsz hz hv hk hc hcm HRP hsl H hs ht
  by_cases hpe : pe = 0
  · subst hpe
    obtain ⟨hrp, hps, hpt⟩ := HPR.out rfl
    have HRQ := Lib.hid (fun W => HRD.out ps pt W hps hpt)
    rw [hrp] at HRQ
    have HMB : Hid (∀ k, k < l.length → (l.map bare).getD k tk0 = bare (l.getD k tk0)) := fun k hk => map_bare_getD hk
    have HML : Hid ((l.map bare).length = l.length) := List.length_map _
    clear hrp hps hpt HPR HRD
    generalize l.map bare = lb at *
    go_enter Try.func5, Try.ntmps5
    go_wp2_with fail
    refine HFEW.out.mono ?_
    rintro e w1 ⟨rfl, rfl⟩
    go_wp2_with fail
    refine HP1.out.mono ?_
    rintro e w1 ⟨rfl, hb1⟩
    have HB1 := Lib.hid hb1
    have hz1 := hb1.size
    clear hb1 HP1 HFEW
    go_wp2_with fail
    refine (HRQ.out _).mono ?_
    rintro e w2 ⟨v2, rfl, ⟨A2, cap2, rfl, hm2, _, _⟩, hb2⟩
    have HM2 := Lib.hid hm2
    have HB2 := Lib.hid (HB1.out.trans (hb2.mono hz1))
    have hz2 := HB2.out.size
    have d0 : ((lb.length : Int) != (l.length : Int)) = false := by rw [HML.out]; simp
    clear hm2 hb2 HRQ HB1
    go_wp2
    go_loopw [12] (fun i wr => ∃ k : Nat, k ≤ l.length ∧ i = .int .i64 k ∧ Below w2.heap.size w2 wr) (fun i _ => l.length - (intOf i).toNat)
    case atStart => exact ⟨0, Nat.zero_le _, rfl, Below.refl _ _⟩
    case round =>
      obtain ⟨i, hi, rfl, hb⟩ := hrel
      have HB := Lib.hid hb
      have hzr := hb.size
      clear hb
      by_cases hlt : i < l.length
      · have hii : (i : Int) < l.length := by omega
        have hib : i < lb.length := by rw [HML.out]; exact hlt
        have hibi : (i : Int) < lb.length := by omega
        obtain ⟨b, off, x, rfl, hx, HXE⟩ := ((HR.out.below HB2.out).below HB.out).at_ hlt
        obtain ⟨b', off', y, rfl, hy, HYE⟩ := (HM2.out.below HB.out).at_ hib
        have hxy := HMB.out i hlt
        rw [HXE.out, HYE.out] at hxy
        have HXX := Lib.hid hx
        have HYY := Lib.hid hy
        have HKP : Hid (∀ W', Below wr.heap.size wr W' → (W'.cell? ⟨b, off + i * 3, none⟩ = some (.int .i64 x.kd) ∧ W'.cell? ⟨b, off + i * 3 + 1, none⟩ = some (.string x.nm) ∧ W'.cell? ⟨b, off + i * 3 + 2, none⟩ = some (.string x.vl) ∧ W'.cell? ⟨b', off' + i * 3, none⟩ = some (.int .i64 y.kd) ∧ W'.cell? ⟨b', off' + i * 3 + 1, none⟩ = some (.string y.nm) ∧ W'.cell? ⟨b', off' + i * 3 + 2, none⟩ = some (.string y.vl) ∧ Below wr.heap.size wr W')) := fun W' h => by
          obtain ⟨x1, x2, x3⟩ := HXX.out.below h
          obtain ⟨y1, y2, y3⟩ := HYY.out.below h
          exact ⟨x1, x2, x3, y1, y2, y3, h⟩
        have HBR : Hid (∀ W', Below wr.heap.size wr W' → Calls Try.prog 15 #[.agg #[.int .i64 x.kd, .string x.nm, .string x.vl]] W' fun e w' => e = .returned (.agg #[.int .i64 y.kd, .string y.nm, .string y.vl]) ∧ (w'.cell? ⟨b, off + i * 3, none⟩ = some (.int .i64 x.kd) ∧ w'.cell? ⟨b, off + i * 3 + 1, none⟩ = some (.string x.nm) ∧ w'.cell? ⟨b, off + i * 3 + 2, none⟩ = some (.string x.vl) ∧ w'.cell? ⟨b', off' + i * 3, none⟩ = some (.int .i64 y.kd) ∧ w'.cell? ⟨b', off' + i * 3 + 1, none⟩ = some (.string y.nm) ∧ w'.cell? ⟨b', off' + i * 3 + 2, none⟩ = some (.string y.vl) ∧ Below wr.heap.size wr w')) := fun W' h =>
          (rbare_any x W').mono fun e w' ⟨q1, q2⟩ => ⟨by rw [q1, ← hxy]; rfl, HKP.out _ (h.trans (q2.mono h.size))⟩
        obtain ⟨xk, xn, xv⟩ := x
        obtain ⟨yk, yn, yv⟩ := y
        simp only at HKP HBR
        obtain ⟨p1, p2, p3, p4, p5, p6, _⟩ := HKP.out _ (Below.refl _ _)
        have hbd : Below wr.heap.size wr wr.drew := (Below.refl _ _).drew
        have e1 : (yk == yk) = true := by simp
        have e2 : (yn.toList == yn.toList) = true := by simp
        have e3 : (yv.toList == yv.toList) = true := by simp
        clear hx hy hxy HXE HYE HXX HYY
        go_upto_region 11 with fail
        go_cut [78] (fun s78 wx => s78 = .bool false ∧ Below wr.heap.size wr wx)
        case first => as_aux_lemma =>
          go_region_held3 (fun w' => w'.cell? ⟨b, off + i * 3, none⟩ = some (.int .i64 xk) ∧ w'.cell? ⟨b, off + i * 3 + 1, none⟩ = some (.string xn) ∧ w'.cell? ⟨b, off + i * 3 + 2, none⟩ = some (.string xv) ∧ w'.cell? ⟨b', off' + i * 3, none⟩ = some (.int .i64 yk) ∧ w'.cell? ⟨b', off' + i * 3 + 1, none⟩ = some (.string yn) ∧ w'.cell? ⟨b', off' + i * 3 + 2, none⟩ = some (.string yv) ∧ Below wr.heap.size wr w') (exact HKP.out _ (by assumption))
            (first | (go_at_call 15; refine (HBR.out _ (by assumption)).mono ?_; rintro e w7 ⟨rfl, s1, s2, s3, s4, s5, s6, s7⟩))
          all_goals (go_wp2_with fail; go_meet; exact ⟨by first | rfl | simp, by assumption⟩)
        case rest => as_aux_lemma =>
          obtain ⟨rfl, hbc⟩ := hcut
          have HB5 := Lib.hid (HB.out.trans (hbc.mono hzr))
          clear hbc hbd HKP HBR
          go_wp2
          go_roundw
          case rel => exact ⟨i + 1, by omega, by go_num, HB5.out⟩
          case measure => simp [intOf]; omega
      · obtain rfl : i = l.length := by omega
        have dl : decide ((l.length : Int) < l.length) = false := decide_eq_false (by omega)
        have HBZ := Lib.hid (HB2.out.trans (HB.out.mono hz2))
        clear HB2 HB HM2 HMB HR
        go_wp2_with fail
        refine (HX.out _).mono ?_
        rintro e wa ⟨va, rfl, ⟨Aa, capa, rfl, hma, hca, hcam⟩, hba⟩
        have HMA := Lib.hid hma
        have HBA := Lib.hid (HBZ.out.trans (hba.mono HBZ.out.size))
        have hza := HBA.out.size
        clear hma hba HX HBZ
        by_cases hev : ev = 0
        · subst hev
          obtain ⟨c, d, hput, hread, hrl⟩ := HTWO.out rfl
          have HPUT := Lib.hid (hput wa Aa capa HMA.out hca hcam)
          have HREAD := Lib.hid hread
          have HSM := Lib.hid (fun (W : World) B B' cap cap' (h : RdTk W B r) (h' : RdTk W B' r) => sameTk_any B B' cap cap' r W (by omega) h h')
          clear hput hread HTWO HBADR
          go_wp2_with fail
          refine HPUT.out.mono ?_
          rintro e wb ⟨rfl, hbb⟩
          have HMA := Lib.hid (HMA.out.below hbb)
          have HBB := Lib.hid (HBA.out.trans (hbb.mono hza))
          have hzb := HBB.out.size
          clear hbb HPUT HBA
          go_wp2_with fail
          refine (HREAD.out _).mono ?_
          rintro e wc ⟨vc, rfl, ⟨Ac, capc, rfl, hmc, _, _⟩, hbc⟩
          have HMA := Lib.hid (HMA.out.below hbc)
          have HMC := Lib.hid hmc
          have HBC := Lib.hid (HBB.out.trans (hbc.mono hzb))
          have hzc := HBC.out.size
          clear hbc hmc HREAD HBB
          go_wp2_with fail
          refine (HSM.out _ _ _ _ _ HMC.out HMA.out).mono ?_
          rintro e wd ⟨rfl, hbd⟩
          have HBD := Lib.hid (HBC.out.trans (hbd.mono hzc))
          have hzd := HBD.out.size
          clear hbd HSM HBC
          go_wp2_with fail
          refine (HAW.out _).mono ?_
          rintro e we ⟨rfl, hbe⟩
          have HBE := Lib.hid (HBD.out.trans (hbe.mono hzd))
          clear hbe
          go_wp2
          go_ret
          exact ⟨rfl, HBE.out⟩
        · have hr0 := HBADR.out hev
          subst hr0
          have dv : ((ev : Int) != 0) = true := by simp; omega
          clear HTWO HBADR
          go_wp2_with fail
          refine (HAW.out _).mono ?_
          rintro e we ⟨rfl, hbe⟩
          have HBE := Lib.hid (HBA.out.trans (hbe.mono hza))
          clear hbe
          go_wp2
          go_ret
          exact ⟨rfl, HBE.out⟩
  · have dp : ((pe : Int) == 0) = false := by simp; omega
    clear HPR HRD
    go_enter Try.func5, Try.ntmps5
    go_wp2_with fail
    refine HFEW.out.mono ?_
    rintro e w1 ⟨rfl, rfl⟩
    go_wp2_with fail
    refine HP1.out.mono ?_
    rintro e w1 ⟨rfl, hb1⟩
    have HB1 := Lib.hid hb1
    have hz1 := hb1.size
    clear hb1 HP1 HFEW
    have HBZ := HB1
    go_wp2_with fail
    refine (HX.out _).mono ?_
    rintro e wa ⟨va, rfl, ⟨Aa, capa, rfl, hma, hca, hcam⟩, hba⟩
    have HMA := Lib.hid hma
    have HBA := Lib.hid (HBZ.out.trans (hba.mono HBZ.out.size))
    have hza := HBA.out.size
    clear hma hba HX HBZ
    by_cases hev : ev = 0
    · subst hev
      obtain ⟨c, d, hput, hread, hrl⟩ := HTWO.out rfl
      have HPUT := Lib.hid (hput wa Aa capa HMA.out hca hcam)
      have HREAD := Lib.hid hread
      have HSM := Lib.hid (fun (W : World) B B' cap cap' (h : RdTk W B r) (h' : RdTk W B' r) => sameTk_any B B' cap cap' r W (by omega) h h')
      clear hput hread HTWO HBADR
      go_wp2_with fail
      refine HPUT.out.mono ?_
      rintro e wb ⟨rfl, hbb⟩
      have HMA := Lib.hid (HMA.out.below hbb)
      have HBB := Lib.hid (HBA.out.trans (hbb.mono hza))
      have hzb := HBB.out.size
      clear hbb HPUT HBA
      go_wp2_with fail
      refine (HREAD.out _).mono ?_
      rintro e wc ⟨vc, rfl, ⟨Ac, capc, rfl, hmc, _, _⟩, hbc⟩
      have HMA := Lib.hid (HMA.out.below hbc)
      have HMC := Lib.hid hmc
      have HBC := Lib.hid (HBB.out.trans (hbc.mono hzb))
      have hzc := HBC.out.size
      clear hbc hmc HREAD HBB
      go_wp2_with fail
      refine (HSM.out _ _ _ _ _ HMC.out HMA.out).mono ?_
      rintro e wd ⟨rfl, hbd⟩
      have HBD := Lib.hid (HBC.out.trans (hbd.mono hzc))
      have hzd := HBD.out.size
      clear hbd HSM HBC
      go_wp2_with fail
      refine (HAW.out _).mono ?_
      rintro e we ⟨rfl, hbe⟩
      have HBE := Lib.hid (HBD.out.trans (hbe.mono hzd))
      clear hbe
      go_wp2
      go_ret
      exact ⟨rfl, HBE.out⟩
    · have hr0 := HBADR.out hev
      subst hr0
      have dv : ((ev : Int) != 0) = true := by simp; omega
      clear HTWO HBADR
      go_wp2_with fail
      refine (HAW.out _).mono ?_
      rintro e we ⟨rfl, hbe⟩
      have HBE := Lib.hid (HBA.out.trans (hbe.mono hza))
      clear hbe
      go_wp2
      go_ret
      exact ⟨rfl, HBE.out⟩
end Go.Proofs.Ytdflflcidajenaa
