/- What the document's place, Read, Write and Erase of parts do. Conditions: slices that read as parts whose sectors exist; numbers of 64 bits; fewer than 2^61 operations and bytes; at most 200 bytes. -/
import Derived.Test.YtidnbpehhpakcaaPaM
import Derived.Test.YtidnbpehhpakcaaGuF
namespace Go.Proofs.Ytidnbpehhpakcaa
open Go.RowKit

theorem pl_none {L : List PT} {name : ByteArray} (h : fdB L name = false) (a n : Int) : plP L name a n = (0, 8) := by unfold plP; rw [if_pos h]
theorem pl_in {L : List PT} {name : ByteArray} (h : fdB L name = true) {p : PT} (hp : fdV L name = p) {a n : Int} (hin : 0 ≤ a ∧ 0 ≤ n ∧ a ≤ p.mn * 512 ∧ n ≤ p.mn * 512 - a) : plP L name a n = (p.fi * 512 + a, 0) := by
  subst hp; unfold plP; rw [if_neg (by rw [h]; decide), if_pos hin]
theorem pl_out {L : List PT} {name : ByteArray} (h : fdB L name = true) {p : PT} (hp : fdV L name = p) {a n : Int} (hin : ¬ (0 ≤ a ∧ 0 ≤ n ∧ a ≤ p.mn * 512 ∧ n ≤ p.mn * 512 - a)) : plP L name a n = (0, 2) := by
  subst hp; unfold plP; rw [if_neg (by rw [h]; decide), if_neg hin]

set_option maxHeartbeats 1600000 in
set_option maxRecDepth 100000 in
theorem rplace_any (A : Option Addr) (cap : Nat) (L : List PT) (name : ByteArray) (a n : Int) (w : World) (hr : RdP w A L) (hl : L.length ≤ maxLen) (hg : Good L) (ha : a < 9223372036854775808) :
    Calls Try.prog 35 #[.slice A L.length cap, .string name, .int .i64 a, .int .i64 n] w fun e w' => e = .returned (.tuple #[.int .i64 (plP L name a n).1, .int .i64 ((plP L name a n).2 : Int)]) ∧ Below w.heap.size w w' := by
  have HF := Lib.hid (rfind_any A cap L name w hr hl)
  have hv := fdV_good hg name
  have HP0 := Lib.hid (fun h => pl_none (L := L) (name := name) h a n)
  obtain ⟨p, hp⟩ : ∃ p, fdV L name = p := ⟨_, rfl⟩
  have HPI := Lib.hid (fun (h : fdB L name = true) => pl_in h hp (a := a) (n := n))
  have HPO := Lib.hid (fun (h : fdB L name = true) => pl_out h hp (a := a) (n := n))
  rw [hp] at HF hv
  obtain ⟨nm, fi, mn⟩ := p
  simp only at hv HPI HPO
  simp only [ptV] at HF
  obtain ⟨v1, v2, v3, v4⟩ := hv
  clear hp hr hg hl
  cases hB : fdB L name with
  | false =>
    rw [hB] at HF
    have HN := Lib.hid (HP0.out hB)
    rw [HN.out]
    clear hB HP0 HPI HPO
    go_enter Try.func35, Try.ntmps35
    go_wp2_with fail
    refine HF.out.mono ?_
    rintro e w1 ⟨rfl, hb⟩
    have HB := Lib.hid (hb.trans (((Below.refl w1.heap.size w1).alloc (Nat.le_refl _) (.cells #[.string nm, .int .i64 fi, .int .i64 mn] 33)).mono hb.size))
    clear hb
    go_wp2
    go_ret2
    exact ⟨rfl, HB.out⟩
  | true =>
    rw [hB] at HF
    have HI := Lib.hid (HPI.out hB)
    have HO := Lib.hid (HPO.out hB)
    clear hB HP0 HPI HPO
    by_cases q1 : a < 0
    · have d1 : decide (a < 0) = true := decide_eq_true q1
      have HN := Lib.hid (HO.out (by omega))
      rw [HN.out]
      clear q1 HI HO
      go_enter Try.func35, Try.ntmps35
      go_wp2_with fail
      refine HF.out.mono ?_
      rintro e w1 ⟨rfl, hb⟩
      have HB := Lib.hid (hb.trans (((Below.refl w1.heap.size w1).alloc (Nat.le_refl _) (.cells #[.string nm, .int .i64 fi, .int .i64 mn] 33)).mono hb.size))
      clear hb
      go_wp2
      go_ret2
      exact ⟨rfl, HB.out⟩
    · have d1 : decide (a < 0) = false := decide_eq_false q1
      by_cases q2 : n < 0
      · have d2 : decide (n < 0) = true := decide_eq_true q2
        have HN := Lib.hid (HO.out (by omega))
        rw [HN.out]
        clear q1 q2 HI HO
        go_enter Try.func35, Try.ntmps35
        go_wp2_with fail
        refine HF.out.mono ?_
        rintro e w1 ⟨rfl, hb⟩
        have HB := Lib.hid (hb.trans (((Below.refl w1.heap.size w1).alloc (Nat.le_refl _) (.cells #[.string nm, .int .i64 fi, .int .i64 mn] 33)).mono hb.size))
        clear hb
        go_wp2
        go_ret2
        exact ⟨rfl, HB.out⟩
      · have d2 : decide (n < 0) = false := decide_eq_false q2
        by_cases q3 : mn * 512 < a
        · have d3 : decide (mn * 512 < a) = true := decide_eq_true q3
          have HN := Lib.hid (HO.out (by omega))
          rw [HN.out]
          clear q1 q2 q3 HI HO
          go_enter Try.func35, Try.ntmps35
          go_wp2_with fail
          refine HF.out.mono ?_
          rintro e w1 ⟨rfl, hb⟩
          have HB := Lib.hid (hb.trans (((Below.refl w1.heap.size w1).alloc (Nat.le_refl _) (.cells #[.string nm, .int .i64 fi, .int .i64 mn] 33)).mono hb.size))
          clear hb
          go_wp2
          go_ret2
          exact ⟨rfl, HB.out⟩
        · have d3 : decide (mn * 512 < a) = false := decide_eq_false q3
          have ha0 : 0 ≤ a := by omega
          have ha1 : a ≤ 24576 := by omega
          by_cases q4 : mn * 512 - a < n
          · have d4 : decide (mn * 512 - a < n) = true := decide_eq_true q4
            have HN := Lib.hid (HO.out (by omega))
            rw [HN.out]
            clear q1 q2 q3 q4 HI HO
            go_enter Try.func35, Try.ntmps35
            go_wp2_with fail
            refine HF.out.mono ?_
            rintro e w1 ⟨rfl, hb⟩
            have HB := Lib.hid (hb.trans (((Below.refl w1.heap.size w1).alloc (Nat.le_refl _) (.cells #[.string nm, .int .i64 fi, .int .i64 mn] 33)).mono hb.size))
            clear hb
            go_wp2
            go_ret2
            exact ⟨rfl, HB.out⟩
          · have d4 : decide (mn * 512 - a < n) = false := decide_eq_false q4
            have HN := Lib.hid (HI.out (by omega))
            rw [HN.out]
            clear q1 q2 q3 q4 HI HO
            go_enter Try.func35, Try.ntmps35
            go_wp2_with fail
            refine HF.out.mono ?_
            rintro e w1 ⟨rfl, hb⟩
            have HB := Lib.hid (hb.trans (((Below.refl w1.heap.size w1).alloc (Nat.le_refl _) (.cells #[.string nm, .int .i64 fi, .int .i64 mn] 33)).mono hb.size))
            clear hb
            go_wp2
            go_ret2
            exact ⟨rfl, HB.out⟩
theorem prd_no {L : List PT} {c : St} {name : ByteArray} {a n : Int} {x : Int} {r : Nat} (h : plP L name a n = (x, r)) (hr : r ≠ 0) : prdS L c name a n = (⟨#[]⟩, r) := by unfold prdS; rw [h, if_neg hr]
theorem prd_yes {L : List PT} {c : St} {name : ByteArray} {a n : Int} {x : Int} (h : plP L name a n = (x, 0)) : prdS L c name a n = rdS c x n := by unfold prdS; rw [h, if_pos rfl]
theorem pw_no {L : List PT} {K : List Bool} {c : St} {name : ByteArray} {a : Int} {s : ByteArray} {x : Int} {r : Nat} (h : plP L name a s.size = (x, r)) (hr : r ≠ 0) : pwS L K c name a s = (c, r) := by unfold pwS; rw [h, if_neg hr]
theorem pw_yes {L : List PT} {K : List Bool} {c : St} {name : ByteArray} {a : Int} {s : ByteArray} {x : Int} (h : plP L name a s.size = (x, 0)) : pwS L K c name a s = gwS K c x s := by unfold pwS; rw [h, if_pos rfl]
theorem pl_cases {L : List PT} (hg : Good L) (name : ByteArray) (a n : Int) : (∃ r : Nat, plP L name a n = (0, r) ∧ (r = 8 ∨ r = 2)) ∨ ∃ x : Int, plP L name a n = (x, 0) ∧ 0 ≤ x ∧ x ≤ 24576 ∧ 0 ≤ n ∧ n ≤ 24576 - x := by
  unfold plP
  split
  · exact .inl ⟨8, rfl, .inl rfl⟩
  · split
    · rename_i h
      have := fdV_good hg name
      exact .inr ⟨_, rfl, by omega, by omega, by omega, by omega⟩
    · exact .inl ⟨2, rfl, .inr rfl⟩

set_option maxHeartbeats 1600000 in
set_option maxRecDepth 100000 in
theorem rpread_any (A : Option Addr) (cap : Nat) (L : List PT) (g gx : Nat) (A' : Option Addr) (cap' : Nat) (K : List Int) (c : St) (name : ByteArray) (a n : Int) (w : World) (hr : RdP w A L) (hl : L.length ≤ maxLen) (hg : Good L) (ha : a < 9223372036854775808)
    (h : RG w g gx A' cap' K) (hx : RR w gx c) :
    Calls Try.prog 22 #[.slice A L.length cap, .pointer (some ⟨g, 0, none⟩), .string name, .int .i64 a, .int .i64 n] w fun e w' => e = .returned (.tuple #[.string (prdS L c name a n).1, .int .i64 ((prdS L c name a n).2 : Int)]) ∧ Below w.heap.size w w' := by
  have HP := Lib.hid (rplace_any A cap L name a n w hr hl hg ha)
  rcases pl_cases hg name a n with ⟨r, hp, hrr⟩ | ⟨x, hp, hx0, hx1, hn0, hn1⟩
  · have hne : r ≠ 0 := by rcases hrr with rfl | rfl <;> decide
    have HN := Lib.hid (prd_no (c := c) hp hne)
    rw [HN.out]
    rw [hp] at HP
    have d1 : ((r : Int) != 0) = true := by simp; omega
    have d2 : ((r : Int) == 0) = false := by simp; omega
    clear hp hrr hne h hx hr hl hg
    go_enter Try.func22, Try.ntmps22
    go_wp2_with fail
    refine HP.out.mono ?_
    rintro e w1 ⟨rfl, hb⟩
    go_wp2
    go_ret2
    exact ⟨rfl, hb⟩
  · have HN := Lib.hid (prd_yes (c := c) hp)
    rw [HN.out]
    rw [hp] at HP
    have HG := Lib.hid h
    have HX := Lib.hid hx
    obtain ⟨s0, hs0⟩ : ∃ s0, (rdS c x n).1 = s0 := ⟨_, rfl⟩
    obtain ⟨r0, hr0⟩ : ∃ r0, (rdS c x n).2 = r0 := ⟨_, rfl⟩
    rw [hs0, hr0]
    have HS0 := Lib.hid hs0
    have HR0 := Lib.hid hr0
    clear hp h hx hr hl hg HN hs0 hr0
    go_enter Try.func22, Try.ntmps22
    go_wp2_with fail
    refine HP.out.mono ?_
    rintro e w1 ⟨rfl, hb⟩
    have HX1 := Lib.hid (HX.out.below hb HX.out.lt)
    have c0 : w1.cell? ⟨g, 0, none⟩ = some (.pointer (some ⟨gx, 0, none⟩)) := (HG.out.below hb).1.cell 0
    have HRD := Lib.hid (refread_any gx c x n w1 HX1.out (by omega))
    have HB := Lib.hid hb
    rw [HS0.out, HR0.out] at HRD
    clear hb HX HG
    go_wp2_with fail
    refine HRD.out.mono ?_
    rintro e w2 ⟨rfl, rfl⟩
    go_wp2
    go_ret2
    exact ⟨rfl, HB.out⟩

set_option maxHeartbeats 1600000 in
set_option maxRecDepth 100000 in
theorem rpwrite_any (A : Option Addr) (cap : Nat) (L : List PT) (g gx : Nat) (A' : Option Addr) (cap' : Nat) (K : List Int) (c : St) (name : ByteArray) (a : Int) (s : ByteArray) (w : World) (hr : RdP w A L) (hl : L.length ≤ maxLen) (hg : Good L) (ha : a < 9223372036854775808)
    (h : RG w g gx A' cap' K) (hK : K.length ≤ maxLen) (hx : RR w gx c) (ho : c.ops + s.size < 2305843009213693952) (hs : s.size ≤ 200) :
    Calls Try.prog 24 #[.slice A L.length cap, .pointer (some ⟨g, 0, none⟩), .string name, .int .i64 a, .string s] w fun e w' => e = .returned (.int .i64 ((pwS L (lkL K) c name a s).2 : Int)) ∧ RR w' gx (pwS L (lkL K) c name a s).1 ∧ w.grownBy w' (some gx) := by
  have HP := Lib.hid (rplace_any A cap L name a s.size w hr hl hg ha)
  rcases pl_cases hg name a s.size with ⟨r, hp, hrr⟩ | ⟨x, hp, hx0, hx1, hn0, hn1⟩
  · have hne : r ≠ 0 := by rcases hrr with rfl | rfl <;> decide
    have HN := Lib.hid (pw_no (K := lkL K) (c := c) hp hne)
    rw [HN.out]
    rw [hp] at HP
    have d1 : ((r : Int) != 0) = true := by simp; omega
    have d2 : ((r : Int) == 0) = false := by simp; omega
    have HX := Lib.hid hx
    clear hp hrr hne h hx hr hl hg
    go_enter Try.func24, Try.ntmps24
    go_wp2_with fail
    refine HP.out.mono ?_
    rintro e w1 ⟨rfl, hb⟩
    go_wp2
    go_ret
    exact ⟨rfl, HX.out.below hb HX.out.lt, grown_below hb⟩
  · have HN := Lib.hid (pw_yes (K := lkL K) (c := c) hp)
    rw [HN.out]
    rw [hp] at HP
    have HG := Lib.hid h
    have HX := Lib.hid hx
    obtain ⟨c', hc'⟩ : ∃ c', (gwS (lkL K) c x s).1 = c' := ⟨_, rfl⟩
    obtain ⟨r0, hr0⟩ : ∃ r0, (gwS (lkL K) c x s).2 = r0 := ⟨_, rfl⟩
    rw [hc', hr0]
    have HC0 := Lib.hid hc'
    have HR0 := Lib.hid hr0
    clear hp h hx hr hl hg HN hc' hr0
    go_enter Try.func24, Try.ntmps24
    go_wp2_with fail
    refine HP.out.mono ?_
    rintro e w1 ⟨rfl, hb⟩
    have HW := Lib.hid (rgwrite_any g gx A' cap' K c x s w1 (HG.out.below hb) hK (HX.out.below hb HX.out.lt) (by omega) (by omega) hs)
    have HB := Lib.hid hb
    rw [HC0.out, HR0.out] at HW
    clear hb HX HG
    go_wp2_with fail
    refine HW.out.mono ?_
    rintro e w2 ⟨rfl, hR, hgr⟩
    go_wp2
    go_ret
    exact ⟨rfl, hR, grown_trans (grown_below HB.out) hgr⟩

theorem pe_none {L : List PT} {K : List Bool} {c : St} {name : ByteArray} (h : fdB L name = false) (x : Int) : peS L K c name x = (c, 8) := by unfold peS; rw [if_pos h]
theorem pe_in {L : List PT} {K : List Bool} {c : St} {name : ByteArray} (h : fdB L name = true) {p : PT} (hp : fdV L name = p) {x : Int} (hin : 0 ≤ x ∧ x < p.mn) : peS L K c name x = geS K c (p.fi + x) := by
  subst hp; unfold peS; rw [if_neg (by rw [h]; decide), if_pos hin]
theorem pe_out {L : List PT} {K : List Bool} {c : St} {name : ByteArray} (h : fdB L name = true) {p : PT} (hp : fdV L name = p) {x : Int} (hin : ¬ (0 ≤ x ∧ x < p.mn)) : peS L K c name x = (c, 2) := by
  subst hp; unfold peS; rw [if_neg (by rw [h]; decide), if_neg hin]

set_option maxHeartbeats 1600000 in
set_option maxRecDepth 100000 in
theorem rperase_any (A : Option Addr) (cap : Nat) (L : List PT) (g gx : Nat) (A' : Option Addr) (cap' : Nat) (K : List Int) (c : St) (name : ByteArray) (x : Int) (w : World) (hr : RdP w A L) (hl : L.length ≤ maxLen) (hg : Good L)
    (h : RG w g gx A' cap' K) (hK : K.length ≤ maxLen) (hx : RR w gx c) (ho : c.ops < 2305843009213693952) :
    Calls Try.prog 26 #[.slice A L.length cap, .pointer (some ⟨g, 0, none⟩), .string name, .int .i64 x] w fun e w' => e = .returned (.int .i64 ((peS L (lkL K) c name x).2 : Int)) ∧ RR w' gx (peS L (lkL K) c name x).1 ∧ w.grownBy w' (some gx) := by
  have HF := Lib.hid (rfind_any A cap L name w hr hl)
  have hv := fdV_good hg name
  have HP0 := Lib.hid (fun h => pe_none (L := L) (K := lkL K) (c := c) (name := name) h x)
  obtain ⟨p, hp⟩ : ∃ p, fdV L name = p := ⟨_, rfl⟩
  have HPI := Lib.hid (fun (h : fdB L name = true) => pe_in (K := lkL K) (c := c) h hp (x := x))
  have HPO := Lib.hid (fun (h : fdB L name = true) => pe_out (K := lkL K) (c := c) h hp (x := x))
  rw [hp] at HF hv
  obtain ⟨nm, fi, mn⟩ := p
  simp only at hv HPI HPO
  simp only [ptV] at HF
  obtain ⟨v1, v2, v3, v4⟩ := hv
  have HX := Lib.hid hx
  have HG := Lib.hid h
  clear hp hr hg hl h hx
  cases hB : fdB L name with
  | false =>
    rw [hB] at HF
    have HN := Lib.hid (HP0.out hB)
    rw [HN.out]
    clear hB HP0 HPI HPO
    go_enter Try.func26, Try.ntmps26
    go_wp2_with fail
    refine HF.out.mono ?_
    rintro e w1 ⟨rfl, hb⟩
    have HB := Lib.hid (hb.trans (((Below.refl w1.heap.size w1).alloc (Nat.le_refl _) (.cells #[.string nm, .int .i64 fi, .int .i64 mn] 33)).mono hb.size))
    clear hb
    go_wp2
    go_ret
    exact ⟨rfl, HX.out.below HB.out HX.out.lt, grown_below HB.out⟩
  | true =>
    rw [hB] at HF
    have HI := Lib.hid (HPI.out hB)
    have HO := Lib.hid (HPO.out hB)
    clear hB HP0 HPI HPO
    by_cases q1 : x < 0
    · have d1 : decide (x < 0) = true := decide_eq_true q1
      have HN := Lib.hid (HO.out (by omega))
      rw [HN.out]
      clear q1 HI HO
      go_enter Try.func26, Try.ntmps26
      go_wp2_with fail
      refine HF.out.mono ?_
      rintro e w1 ⟨rfl, hb⟩
      have HB := Lib.hid (hb.trans (((Below.refl w1.heap.size w1).alloc (Nat.le_refl _) (.cells #[.string nm, .int .i64 fi, .int .i64 mn] 33)).mono hb.size))
      clear hb
      go_wp2
      go_ret
      exact ⟨rfl, HX.out.below HB.out HX.out.lt, grown_below HB.out⟩
    · have d1 : decide (x < 0) = false := decide_eq_false q1
      by_cases q2 : mn ≤ x
      · have d2 : decide (mn ≤ x) = true := decide_eq_true q2
        have HN := Lib.hid (HO.out (by omega))
        rw [HN.out]
        clear q1 q2 HI HO
        go_enter Try.func26, Try.ntmps26
        go_wp2_with fail
        refine HF.out.mono ?_
        rintro e w1 ⟨rfl, hb⟩
        have HB := Lib.hid (hb.trans (((Below.refl w1.heap.size w1).alloc (Nat.le_refl _) (.cells #[.string nm, .int .i64 fi, .int .i64 mn] 33)).mono hb.size))
        clear hb
        go_wp2
        go_ret
        exact ⟨rfl, HX.out.below HB.out HX.out.lt, grown_below HB.out⟩
      · have d2 : decide (mn ≤ x) = false := decide_eq_false q2
        have hx0 : 0 ≤ x := by omega
        have hx1 : x ≤ 48 := by omega
        have HN := Lib.hid (HI.out (by omega))
        rw [HN.out]
        obtain ⟨c', hc'⟩ : ∃ c', (geS (lkL K) c (fi + x)).1 = c' := ⟨_, rfl⟩
        obtain ⟨r0, hr0⟩ : ∃ r0, (geS (lkL K) c (fi + x)).2 = r0 := ⟨_, rfl⟩
        rw [hc', hr0]
        have HC0 := Lib.hid hc'
        have HR0 := Lib.hid hr0
        clear q1 q2 HI HO hc' hr0
        go_enter Try.func26, Try.ntmps26
        go_wp2_with fail
        refine HF.out.mono ?_
        rintro e w1 ⟨rfl, hb⟩
        have HB := Lib.hid (hb.trans (((Below.refl w1.heap.size w1).alloc (Nat.le_refl _) (.cells #[.string nm, .int .i64 fi, .int .i64 mn] 33)).mono hb.size))
        clear hb
        have HE := Lib.hid (rgerase_any g gx A' cap' K c (fi + x) (w1.alloc (.cells #[.string nm, .int .i64 fi, .int .i64 mn] 33)) (HG.out.below HB.out) hK (HX.out.below HB.out HX.out.lt) (by omega))
        rw [HC0.out, HR0.out] at HE
        clear HX HG HN
        go_wp2_with fail
        refine HE.out.mono ?_
        rintro e w2 ⟨rfl, hR, hgr⟩
        go_wp2
        go_ret
        exact ⟨rfl, hR, grown_trans (grown_below HB.out) hgr⟩
end Go.Proofs.Ytidnbpehhpakcaa
