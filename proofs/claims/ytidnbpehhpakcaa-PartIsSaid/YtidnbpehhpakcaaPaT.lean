/- What package part's Read, Write, Erase and Sectors do; that it keeps all contracts of a part. Conditions: a Table of parts whose sectors exist; numbers of 64 bits; fewer than 2^61 operations and bytes. -/
import Derived.Test.YtidnbpehhpakcaaPaV
import Derived.Test.YtidnbpehhpakcaaPaD
import Derived.Test.YtidnbpehhpakcaaPaE
namespace Go.Proofs.Ytidnbpehhpakcaa
open Go.RowKit

set_option maxHeartbeats 1600000 in
set_option maxRecDepth 100000 in
theorem pplace_any (w : World) (q : Option Addr) (L : List PT) (name : ByteArray) (a n : Int) (h : TBL w q L) (hg : Good L) (ha : a < 9223372036854775808) :
    Calls Try.prog 34 #[.pointer q, .string name, .int .i64 a, .int .i64 n] w fun e w' => e = .returned (.tuple #[.int .i64 (plP L name a n).1, .int .i64 ((plP L name a n).2 : Int)]) ∧ Below w.heap.size w w' := by
  have HF := Lib.hid (find_any w q L name h (by have := hg.1; omega))
  have hv := fdV_good hg name
  have HP0 := Lib.hid (fun h => pl_none (L := L) (name := name) h a n)
  obtain ⟨p, hp⟩ : ∃ p, fdV L name = p := ⟨_, rfl⟩
  have HPI := Lib.hid (fun (h : fdB L name = true) => pl_in h hp (a := a) (n := n))
  have HPO := Lib.hid (fun (h : fdB L name = true) => pl_out h hp (a := a) (n := n))
  rw [hp] at HF hv
  obtain ⟨nm, fi, mn⟩ := p
  simp only at hv HPI HPO
  simp only [ptV] at HF
  obtain ⟨v1, v2, v3, v4⟩ := hv
  have HSZ := Lib.hid (fun W => psize_any ⟨nm, fi, mn⟩ W v2 (by simp only; omega))
  simp only [ptV] at HSZ
  clear hp hg h
  cases hB : fdB L name with
  | false =>
    rw [hB] at HF
    have HN := Lib.hid (HP0.out hB)
    rw [HN.out]
    clear hB HP0 HPI HPO
    go_enter Try.func34, Try.ntmps34
    go_wp2_with fail
    refine HF.out.mono ?_
    rintro e w1 ⟨rfl, hb⟩
    have HB := Lib.hid (hb.trans (((Below.refl w1.heap.size w1).alloc (Nat.le_refl _) (.cells #[.string nm, .int .i64 fi, .int .i64 mn] 33)).mono hb.size))
    clear hb HF
    go_wp2
    go_ret2
    exact ⟨rfl, HB.out⟩
  | true =>
    rw [hB] at HF
    have HI := Lib.hid (HPI.out hB)
    have HO := Lib.hid (HPO.out hB)
    clear hB HP0 HPI HPO
    by_cases q1 : a < 0
    · have d1 : decide (a < 0) = true := decide_eq_true q1
      have HN := Lib.hid (HO.out (by omega))
      rw [HN.out]
      clear q1 HI HO
      go_enter Try.func34, Try.ntmps34
      go_wp2_with fail
      refine HF.out.mono ?_
      rintro e w1 ⟨rfl, hb⟩
      have HB := Lib.hid (hb.trans (((Below.refl w1.heap.size w1).alloc (Nat.le_refl _) (.cells #[.string nm, .int .i64 fi, .int .i64 mn] 33)).mono hb.size))
      clear hb HF
      go_wp2
      go_ret2
      exact ⟨rfl, HB.out⟩
    · have d1 : decide (a < 0) = false := decide_eq_false q1
      by_cases q2 : n < 0
      · have d2 : decide (n < 0) = true := decide_eq_true q2
        have HN := Lib.hid (HO.out (by omega))
        rw [HN.out]
        clear q1 q2 HI HO
        go_enter Try.func34, Try.ntmps34
        go_wp2_with fail
        refine HF.out.mono ?_
        rintro e w1 ⟨rfl, hb⟩
        have HB := Lib.hid (hb.trans (((Below.refl w1.heap.size w1).alloc (Nat.le_refl _) (.cells #[.string nm, .int .i64 fi, .int .i64 mn] 33)).mono hb.size))
        clear hb HF
        go_wp2
        go_ret2
        exact ⟨rfl, HB.out⟩
      · have d2 : decide (n < 0) = false := decide_eq_false q2
        have ha0 : 0 ≤ a := by omega
        by_cases q4 : mn * 512 - a < n
        · have d4 : decide (mn * 512 - a < n) = true := decide_eq_true q4
          have HN := Lib.hid (HO.out (by omega))
          rw [HN.out]
          clear q1 q2 q4 HI HO
          go_enter Try.func34, Try.ntmps34
          go_wp2_with fail
          refine HF.out.mono ?_
          rintro e w1 ⟨rfl, hb⟩
          have HB := Lib.hid (hb.trans (((Below.refl w1.heap.size w1).alloc (Nat.le_refl _) (.cells #[.string nm, .int .i64 fi, .int .i64 mn] 33)).mono hb.size))
          clear hb HF
          go_wp2_with fail
          refine (HSZ.out _).mono ?_
          rintro e w2 ⟨rfl, hb2⟩
          have HB2 := Lib.hid (HB.out.trans (hb2.mono HB.out.size))
          clear hb2 HSZ
          go_wp2
          go_ret2
          exact ⟨rfl, HB2.out⟩
        · have d4 : decide (mn * 512 - a < n) = false := decide_eq_false q4
          have ha1 : a ≤ 24576 := by omega
          have HN := Lib.hid (HI.out (by omega))
          rw [HN.out]
          clear q1 q2 q4 HI HO
          go_enter Try.func34, Try.ntmps34
          go_wp2_with fail
          refine HF.out.mono ?_
          rintro e w1 ⟨rfl, hb⟩
          have HB := Lib.hid (hb.trans (((Below.refl w1.heap.size w1).alloc (Nat.le_refl _) (.cells #[.string nm, .int .i64 fi, .int .i64 mn] 33)).mono hb.size))
          clear hb HF
          go_wp2_with fail
          refine (HSZ.out _).mono ?_
          rintro e w2 ⟨rfl, hb2⟩
          have HB2 := Lib.hid (HB.out.trans (hb2.mono HB.out.size))
          have HA2 := Lib.hid ((Arr.new w1 33 #[.string nm, .int .i64 fi, .int .i64 mn]).below hb2 (by rw [size_alloc]; omega))
          have c1 : w2.cell? ⟨w1.heap.size, 1, none⟩ = some (.int .i64 fi) := HA2.out.cell 1
          clear hb2 HSZ
          go_wp2
          go_ret2
          exact ⟨rfl, HB2.out⟩

set_option maxHeartbeats 1600000 in
set_option maxRecDepth 100000 in
theorem pread_any (w : World) (q : Option Addr) (L : List PT) (gg gc : Nat) (K : List Bool) (c : St) (name : ByteArray) (a n : Int) (h : TBL w q L) (hg : Good L) (h2 : Two w gg gc K c) (ha : a < 9223372036854775808) :
    Calls Try.prog 21 #[.pointer q, .pointer (some ⟨gg, 0, none⟩), .string name, .int .i64 a, .int .i64 n] w fun e w' => e = .returned (.tuple #[.string (prdS L c name a n).1, .int .i64 ((prdS L c name a n).2 : Int)]) ∧ Below w.heap.size w w' := by
  have HP := Lib.hid (pplace_any w q L name a n h hg ha)
  rcases pl_cases hg name a n with ⟨r, hp, hrr⟩ | ⟨x, hp, hx0, hx1, hn0, hn1⟩
  · have hne : r ≠ 0 := by rcases hrr with rfl | rfl <;> decide
    have HN := Lib.hid (prd_no (c := c) hp hne)
    rw [HN.out]
    rw [hp] at HP
    have d1 : ((r : Int) != 0) = true := by simp; omega
    have d2 : ((r : Int) == 0) = false := by simp; omega
    clear hp hrr hne h h2 hg
    go_enter Try.func21, Try.ntmps21
    go_wp2_with fail
    refine HP.out.mono ?_
    rintro e w1 ⟨rfl, hb⟩
    go_wp2
    go_ret2
    exact ⟨rfl, hb⟩
  · have HN := Lib.hid (prd_yes (c := c) hp)
    rw [HN.out]
    rw [hp] at HP
    have H2 := Lib.hid h2
    have HG := Lib.hid (fun W (hW : Below w.heap.size w W) => gread_rn (some ⟨gg, 0, none⟩) gc K c x n W (H2.out.below hW).1 (H2.out.below hW).2.1)
    generalize (rdS c x n).1 = s0 at *
    generalize (rdS c x n).2 = r0 at *
    clear hp h h2 hg HN H2
    go_enter Try.func21, Try.ntmps21
    go_wp2_with fail
    refine HP.out.mono ?_
    rintro e w1 ⟨rfl, hb⟩
    have HB := Lib.hid hb
    have hsz := hb.size
    clear hb HP
    go_wp2_with fail
    refine (HG.out w1 HB.out).mono ?_
    rintro e w2 ⟨rfl, hb⟩
    go_wp2
    go_ret2
    exact ⟨rfl, HB.out.trans (hb.mono hsz)⟩

set_option maxHeartbeats 1600000 in
set_option maxRecDepth 100000 in
theorem pwrite_any (w : World) (q : Option Addr) (L : List PT) (gg gc : Nat) (K : List Bool) (c : St) (name : ByteArray) (a : Int) (s : ByteArray) (h : TBL w q L) (hg : Good L) (h2 : Two w gg gc K c) (ha : a < 9223372036854775808) (ho : c.ops + s.size < 2305843009213693952) :
    Calls Try.prog 23 #[.pointer q, .pointer (some ⟨gg, 0, none⟩), .string name, .int .i64 a, .string s] w fun e w' => e = .returned (.int .i64 ((pwS L K c name a s).2 : Int)) ∧ RN w' gc (pwS L K c name a s).1 ∧ w.grownBy w' (some gc) := by
  have HP := Lib.hid (pplace_any w q L name a s.size h hg ha)
  have H2 := Lib.hid h2
  rcases pl_cases hg name a s.size with ⟨r, hp, hrr⟩ | ⟨x, hp, hx0, hx1, hn0, hn1⟩
  · have hne : r ≠ 0 := by rcases hrr with rfl | rfl <;> decide
    have HN := Lib.hid (pw_no (K := K) (c := c) hp hne)
    rw [HN.out]
    rw [hp] at HP
    have d1 : ((r : Int) != 0) = true := by simp; omega
    have d2 : ((r : Int) == 0) = false := by simp; omega
    clear hp hrr hne h h2 hg
    go_enter Try.func23, Try.ntmps23
    go_wp2_with fail
    refine HP.out.mono ?_
    rintro e w1 ⟨rfl, hb⟩
    go_wp2
    go_ret
    exact ⟨rfl, (H2.out.below hb).2.1, grown_below hb⟩
  · have HN := Lib.hid (pw_yes (K := K) (c := c) hp)
    rw [HN.out]
    rw [hp] at HP
    have HG := Lib.hid (fun W (hW : Below w.heap.size w W) => gwrite_rn (some ⟨gg, 0, none⟩) gc K c x s W (H2.out.below hW).1 (H2.out.below hW).2.1 (by omega))
    generalize (gwS K c x s).1 = c' at *
    generalize (gwS K c x s).2 = r0 at *
    clear hp h h2 hg HN H2
    go_enter Try.func23, Try.ntmps23
    go_wp2_with fail
    refine HP.out.mono ?_
    rintro e w1 ⟨rfl, hb⟩
    have HB := Lib.hid hb
    clear hb HP
    go_wp2_with fail
    refine (HG.out w1 HB.out).mono ?_
    rintro e w2 ⟨rfl, hR, hgr⟩
    go_wp2
    go_ret
    exact ⟨rfl, hR, grown_trans (grown_below HB.out) hgr⟩

set_option maxHeartbeats 1600000 in
set_option maxRecDepth 100000 in
theorem perase_any (w : World) (q : Option Addr) (L : List PT) (gg gc : Nat) (K : List Bool) (c : St) (name : ByteArray) (x : Int) (h : TBL w q L) (hg : Good L) (h2 : Two w gg gc K c) (ho : c.ops < 2305843009213693952) :
    Calls Try.prog 25 #[.pointer q, .pointer (some ⟨gg, 0, none⟩), .string name, .int .i64 x] w fun e w' => e = .returned (.int .i64 ((peS L K c name x).2 : Int)) ∧ RN w' gc (peS L K c name x).1 ∧ w.grownBy w' (some gc) := by
  have HF := Lib.hid (find_any w q L name h (by have := hg.1; omega))
  have hv := fdV_good hg name
  have HP0 := Lib.hid (fun h => pe_none (L := L) (K := K) (c := c) (name := name) h x)
  obtain ⟨p, hp⟩ : ∃ p, fdV L name = p := ⟨_, rfl⟩
  have HPI := Lib.hid (fun (h : fdB L name = true) => pe_in (K := K) (c := c) h hp (x := x))
  have HPO := Lib.hid (fun (h : fdB L name = true) => pe_out (K := K) (c := c) h hp (x := x))
  rw [hp] at HF hv
  obtain ⟨nm, fi, mn⟩ := p
  simp only at hv HPI HPO
  simp only [ptV] at HF
  obtain ⟨v1, v2, v3, v4⟩ := hv
  have H2 := Lib.hid h2
  clear hp hg h h2
  cases hB : fdB L name with
  | false =>
    rw [hB] at HF
    have HN := Lib.hid (HP0.out hB)
    rw [HN.out]
    clear hB HP0 HPI HPO
    go_enter Try.func25, Try.ntmps25
    go_wp2_with fail
    refine HF.out.mono ?_
    rintro e w1 ⟨rfl, hb⟩
    have HB := Lib.hid (hb.trans (((Below.refl w1.heap.size w1).alloc (Nat.le_refl _) (.cells #[.string nm, .int .i64 fi, .int .i64 mn] 33)).mono hb.size))
    clear hb HF
    go_wp2
    go_ret
    exact ⟨rfl, (H2.out.below HB.out).2.1, grown_below HB.out⟩
  | true =>
    rw [hB] at HF
    have HI := Lib.hid (HPI.out hB)
    have HO := Lib.hid (HPO.out hB)
    clear hB HP0 HPI HPO
    by_cases q1 : x < 0
    · have d1 : decide (x < 0) = true := decide_eq_true q1
      have HN := Lib.hid (HO.out (by omega))
      rw [HN.out]
      clear q1 HI HO
      go_enter Try.func25, Try.ntmps25
      go_wp2_with fail
      refine HF.out.mono ?_
      rintro e w1 ⟨rfl, hb⟩
      have HB := Lib.hid (hb.trans (((Below.refl w1.heap.size w1).alloc (Nat.le_refl _) (.cells #[.string nm, .int .i64 fi, .int .i64 mn] 33)).mono hb.size))
      clear hb HF
      go_wp2
      go_ret
      exact ⟨rfl, (H2.out.below HB.out).2.1, grown_below HB.out⟩
    · have d1 : decide (x < 0) = false := decide_eq_false q1
      by_cases q2 : mn ≤ x
      · have d2 : decide (mn ≤ x) = true := decide_eq_true q2
        have HN := Lib.hid (HO.out (by omega))
        rw [HN.out]
        clear q1 q2 HI HO
        go_enter Try.func25, Try.ntmps25
        go_wp2_with fail
        refine HF.out.mono ?_
        rintro e w1 ⟨rfl, hb⟩
        have HB := Lib.hid (hb.trans (((Below.refl w1.heap.size w1).alloc (Nat.le_refl _) (.cells #[.string nm, .int .i64 fi, .int .i64 mn] 33)).mono hb.size))
        clear hb HF
        go_wp2
        go_ret
        exact ⟨rfl, (H2.out.below HB.out).2.1, grown_below HB.out⟩
      · have d2 : decide (mn ≤ x) = false := decide_eq_false q2
        have hx0 : 0 ≤ x := by omega
        have hx1 : x ≤ 48 := by omega
        have HN := Lib.hid (HI.out (by omega))
        rw [HN.out]
        have HG := Lib.hid (fun W (hW : Below w.heap.size w W) => gerase_rn (some ⟨gg, 0, none⟩) gc K c (fi + x) W (H2.out.below hW).1 (H2.out.below hW).2.1 (by omega))
        generalize (geS K c (fi + x)).1 = c' at *
        generalize (geS K c (fi + x)).2 = r0 at *
        clear q1 q2 HI HO HN H2
        go_enter Try.func25, Try.ntmps25
        go_wp2_with fail
        refine HF.out.mono ?_
        rintro e w1 ⟨rfl, hb⟩
        have HB := Lib.hid (hb.trans (((Below.refl w1.heap.size w1).alloc (Nat.le_refl _) (.cells #[.string nm, .int .i64 fi, .int .i64 mn] 33)).mono hb.size))
        clear hb HF
        go_wp2_with fail
        refine (HG.out _ HB.out).mono ?_
        rintro e w2 ⟨rfl, hR, hgr⟩
        go_wp2
        go_ret
        exact ⟨rfl, hR, grown_trans (grown_below HB.out) hgr⟩

set_option maxHeartbeats 1600000 in
set_option maxRecDepth 100000 in
theorem psectors_any (w : World) (q : Option Addr) (L : List PT) (A' : Option Addr) (cap' : Nat) (N : List ByteArray) (h : TBL w q L) (hg : Good L) (hN : RdN w A' N) (hn : N.length ≤ 20) :
    Calls Try.prog 16 #[.pointer q, .slice A' N.length cap'] w fun e w' => ∃ v, e = .returned v ∧ w'.ownsRow w.heap.size 3 1 v (secs L N).length (intsV (secs L N)) ∧ Below w.heap.size w w' := by
  have HT := Lib.hid h
  have HRN := Lib.hid hN
  have HG := Lib.hid hg
  have HEL := Lib.hid elemInt
  clear h hN hg
  go_enter Try.func16, Try.ntmps16
  go_wp2
  go_loopw [5, 13] (fun v i wr => ∃ k : Nat, k ≤ N.length ∧ i = .int .i64 k ∧ wr.ownsRow w.heap.size 3 1 v (secs L (N.take k)).length (intsV (secs L (N.take k))) ∧ Below w.heap.size w wr) (fun _ i _ => N.length - (intOf i).toNat)
  case atStart => exact ⟨0, Nat.zero_le _, rfl, World.ownsRow_nil _ _ _ _, Below.refl _ _⟩
  case round =>
    obtain ⟨k, hk, rfl, hown, hb⟩ := hrel
    have HOWN := Lib.hid hown
    have HB := Lib.hid hb
    have hsz := hb.size
    clear hown hb
    by_cases hlt : k < N.length
    · have hki : (k : Int) < N.length := by omega
      obtain ⟨b, off, x, rfl, hc, HX⟩ := (HRN.out.below HB.out).at_ hlt
      have HTK := Lib.hid (secs_take L N hlt)
      rw [HX.out] at HTK
      have HF := Lib.hid (find_any wr q L x (HT.out.below HB.out) (by have := HG.out.1; omega))
      have hv := fdV_good HG.out x
      have hlen : (secs L (N.take k)).length ≤ 960 := by
        have := secs_length HG.out (N.take k)
        rw [List.length_take] at this
        omega
      generalize fdV L x = p at *
      generalize fdB L x = fb at *
      obtain ⟨nm, fi, mn⟩ := p
      simp only at hv HTK
      simp only [ptV] at HF
      obtain ⟨v1, v2, v3, v4⟩ := hv
      obtain ⟨m, rfl⟩ := Int.eq_ofNat_of_zero_le v2
      rw [Int.toNat_natCast] at HTK
      have hm48 : m ≤ 48 := by omega
      generalize secs L (N.take k) = S0 at *
      clear HX
      go_wp2_with fail
      refine HF.out.mono ?_
      rintro e w1 ⟨rfl, hb1⟩
      have HO1 := Lib.hid ((own_below HOWN.out hb1).alloc (.cells (ptC ⟨nm, fi, m⟩) 33))
      have HB1 := Lib.hid ((HB.out.trans (hb1.mono hsz)).alloc (Nat.le_trans hsz hb1.size) (.cells (ptC ⟨nm, fi, m⟩) 33))
      have HA1 := Lib.hid (Arr.new w1 33 (ptC ⟨nm, fi, m⟩))
      have hsz1 := HB1.out.size
      clear hb1 HOWN HF
      go_wp2
      change Code.wp _ _ _ _ (w1.alloc (.cells (ptC ⟨nm, fi, m⟩) 33))
      generalize w1.heap.size = g at *
      generalize w1.alloc (.cells (ptC ⟨nm, fi, m⟩) 33) = W1 at *
      go_loopw [5, 25] (fun v i wr => ∃ j : Nat, j ≤ m ∧ i = .int .i64 j ∧ wr.ownsRow w.heap.size 3 1 v (S0 ++ secs1 ⟨nm, fi, m⟩ j).length (intsV (S0 ++ secs1 ⟨nm, fi, m⟩ j)) ∧ Arr wr g 33 (ptC ⟨nm, fi, m⟩) ∧ Below w.heap.size w wr) (fun _ i _ => m - (intOf i).toNat)
      case atStart => exact ⟨0, Nat.zero_le _, rfl, by simpa [secs1] using HO1.out, HA1.out, HB1.out⟩
      case round =>
        clear HO1 HA1 HB1
        obtain ⟨j, hj, rfl, hown, hA, hb⟩ := hrel
        have c1 : wr.cell? ⟨g, 1, none⟩ = some (.int .i64 fi) := hA.cell 1
        have c2 : wr.cell? ⟨g, 2, none⟩ = some (.int .i64 m) := hA.cell 2
        have HOWN := Lib.hid hown
        have HA := Lib.hid hA
        have HB2 := Lib.hid hb
        have hsz2 := hb.size
        have HS := Lib.hid (secs1_succ ⟨nm, fi, m⟩ j)
        simp only at HS
        have hlj : (secs1 ⟨nm, fi, m⟩ j).length = j := secs1_length _ _
        have hll : (S0 ++ secs1 ⟨nm, fi, m⟩ j).length ≤ 1100 := by rw [List.length_append]; omega
        have HLL : Hid ((S0 ++ secs1 ⟨nm, fi, m⟩ j).length + 1 = (S0 ++ secs1 ⟨nm, fi, m⟩ (j + 1)).length) := by
          unfold Hid; rw [List.length_append, List.length_append, secs1_length, secs1_length]; omega
        have HSN : Hid (intsV (S0 ++ secs1 ⟨nm, fi, m⟩ j) ++ [.int .i64 (fi + j)] = intsV (S0 ++ secs1 ⟨nm, fi, m⟩ (j + 1))) := by
          unfold Hid; rw [HS.out, ← List.append_assoc, intsV_snoc]
        have HN : Hid (∀ (v' : Value) (w' : World), w'.ownsRow w.heap.size 3 1 v' ((S0 ++ secs1 ⟨nm, fi, m⟩ j).length + 1) (intsV (S0 ++ secs1 ⟨nm, fi, m⟩ j) ++ [.int .i64 (fi + j)]) → w'.ownsRow w.heap.size 3 1 v' (S0 ++ secs1 ⟨nm, fi, m⟩ (j + 1)).length (intsV (S0 ++ secs1 ⟨nm, fi, m⟩ (j + 1)))) := by
          intro v' w' h
          rwa [HLL.out, HSN.out] at h
        clear hown hA hb HLL HSN HS hlj
        by_cases hlj : j < m
        · have hji : (j : Int) < m := by omega
          generalize secs1 ⟨nm, fi, m⟩ j = S1 at *
          go_wp2_with (refine append_beside rfl (.tmp 28) (.tmp 33) 40 rfl w.heap.size 3 (.int .i64 0) 8 HEL (.int .i64 (fi + j)) rfl _ (S0 ++ S1).length (intsV (S0 ++ S1)) rfl HOWN.out rfl (by omega) (by unfold maxLen; omega) hsz2 ?_; intro v' w' ho' hb' hg')
          have HO3 := Lib.hid (HN.out _ _ ho')
          have HA3 := Lib.hid (HA.out.grown hg' (own_beside HA.out HOWN.out partInt))
          have HB3 := Lib.hid (HB2.out.trans hb')
          clear ho' hb' hg' HOWN HA HB2 HN c1 c2
          go_roundw
          case rel => exact ⟨j + 1, by omega, by go_num, HO3.out, HA3.out, HB3.out⟩
          case measure => simp [intOf]; omega
        · obtain rfl : j = m := by omega
          rw [← HTK.out] at HOWN
          go_wp2
          go_roundw
          case rel => exact ⟨k + 1, by omega, by go_num, HOWN.out, HB2.out⟩
          case measure => simp [intOf]; omega
    · obtain rfl : k = N.length := by omega
      rw [List.take_length] at HOWN
      go_wp2
      go_ret
      exact ⟨_, rfl, HOWN.out, HB.out⟩

/-- Package part keeps all contracts of a part. -/
theorem part_ok : PartOK TBL where
  below := fun _ _ _ _ h hb => h.below hb
  grown := fun _ _ _ _ gc _ h hN hg => by
    obtain ⟨_, _, _, hA, _⟩ := hN
    exact h.grown hg hA (by decide) (by decide)
  grownX := fun _ _ _ _ gx _ h hN hg => by
    obtain ⟨_, _, _, hA, _⟩ := hN
    exact h.grown hg hA (by decide) (by decide)
  new := fun A cap L w hr hcp hl _ => pnew_any A cap L w hr hcp (by omega)
  allNil := pall_nil
  all := fun w q L h hg => pall_any w q L h (by have := hg.1; omega)
  find := fun w q L name h hg => find_any w q L name h (by have := hg.1; omega)
  size := size_any
  sectors := fun w q L A cap N h hg hN hn => (psectors_any w q L A cap N h hg hN hn).mono fun e w' ⟨v, he, ho, hb⟩ => by
    obtain ⟨A', cap', rfl, hr⟩ := rdI_own ho
    exact ⟨A', cap', he, hr, hb⟩
  read := fun w q L gg gc K c name a n h hg h2 ha _ _ _ => pread_any w q L gg gc K c name a n h hg h2 ha
  write := fun w q L gg gc K c name a s h hg h2 ha _ ho => pwrite_any w q L gg gc K c name a s h hg h2 ha ho
  erase := fun w q L gg gc K c name x h hg h2 _ _ ho => perase_any w q L gg gc K c name x h hg h2 ho
end Go.Proofs.Ytidnbpehhpakcaa
