/- What package ram's usable, there, overlaps and fault return; slices.Clone, IndexFunc and ContainsFunc of spans. Conditions: spans that exist, at most 1000 of them. -/
import Derived.Test.YtecfdcibjmakeaaRaS
import Derived.Laws.AppendOwn
import Derived.Lib.SliceRun
import Derived.Deep.QuietTactic
import Derived.Deep.RegionHeld3
import Derived.Deep.DeepCutAuto
namespace Go.Proofs.Ytecfdcibjmakeaa
open Go.RowKit

theorem musable_nil (w : World) : Calls Try.prog 17 #[.pointer none] w fun e w' => e = .returned (.bool false) ∧ w = w' := by
  go_enter Try.func17, Try.ntmps17
  go_wp2
  go_ret
  exact ⟨rfl, rfl⟩
theorem musable_any (g : Nat) (m : Bool) (w : World) (h : w.cell? ⟨g, 0, none⟩ = some (.bool m)) : Calls Try.prog 17 #[.pointer (some ⟨g, 0, none⟩)] w fun e w' => e = .returned (.bool m) ∧ w = w' := by
  go_enter Try.func17, Try.ntmps17
  go_wp2
  go_ret
  exact ⟨rfl, rfl⟩
set_option maxRecDepth 100000 in
theorem mthere_any (a n : Int) (w : World) : Calls Try.prog 18 #[.int .i64 a, .int .i64 n] w fun e w' => e = .returned (.bool (insS ⟨a, n⟩)) ∧ w = w' := by
  by_cases h1 : 0 ≤ a
  · by_cases h2 : a ≤ 65536
    · by_cases h3 : 0 ≤ n
      · have hd1 : decide (0 ≤ a) = true := decide_eq_true h1
        have hd2 : decide (a ≤ 65536) = true := decide_eq_true h2
        have hd3 : decide (0 ≤ n) = true := decide_eq_true h3
        have ht : Hid (insS ⟨a, n⟩ = decide (n ≤ 65536 - a)) := by unfold Hid insS; simp [h1, h2, h3]
        go_enter Try.func18, Try.ntmps18
        go_wp2
        go_ret
        exact ⟨by rw [ht.out]; rfl, rfl⟩
      · have hd1 : decide (0 ≤ a) = true := decide_eq_true h1
        have hd2 : decide (a ≤ 65536) = true := decide_eq_true h2
        have hd3 : decide (0 ≤ n) = false := decide_eq_false h3
        have ht : Hid (insS ⟨a, n⟩ = false) := by unfold Hid insS; simp [h3]
        go_enter Try.func18, Try.ntmps18
        go_wp2
        go_ret
        exact ⟨by rw [ht.out]; rfl, rfl⟩
    · have hd1 : decide (0 ≤ a) = true := decide_eq_true h1
      have hd2 : decide (a ≤ 65536) = false := decide_eq_false h2
      have ht : Hid (insS ⟨a, n⟩ = false) := by unfold Hid insS; simp [h2]
      go_enter Try.func18, Try.ntmps18
      go_wp2
      go_ret
      exact ⟨by rw [ht.out]; rfl, rfl⟩
  · have hd1 : decide (0 ≤ a) = false := decide_eq_false h1
    have ht : Hid (insS ⟨a, n⟩ = false) := by unfold Hid insS; simp [h1]
    go_enter Try.func18, Try.ntmps18
    go_wp2
    go_ret
    exact ⟨by rw [ht.out]; rfl, rfl⟩

/-- Spans overlap if what both have begins ahead of its end. -/
theorem meetS_max (x y : SP) : meetS x y = decide (max x.p y.p < min (x.p + x.n) (y.p + y.n)) := by
  cases e : meetS x y with
  | true => have := meetS_of e; exact (decide_eq_true (by omega)).symm
  | false =>
    refine (decide_eq_false fun h => ?_).symm
    rw [meetS_true (by omega)] at e
    cases e

set_option maxHeartbeats 800000 in
set_option maxRecDepth 100000 in
theorem ovl1_any (c : Nat) (x y : SP) (w : World) (hx : insS x = true) (hy : insS y = true) (hc : SpAt w c 0 x) :
    Calls Try.prog 24 #[spV y, .pointer (some ⟨c, 0, none⟩)] w fun e w' => e = .returned (.bool (meetS x y)) ∧ Below w.heap.size w w' := by
  have hx1 := insS_of hx
  have hy1 := insS_of hy
  have HM := Lib.hid (meetS_max x y)
  obtain ⟨p, n⟩ := x
  obtain ⟨p', n'⟩ := y
  obtain ⟨c0, c1⟩ := hc
  simp only at c0 c1 hx1 hy1 HM
  obtain ⟨x1, x2, x3, x4⟩ := hx1
  obtain ⟨y1, y2, y3, y4⟩ := hy1
  have hcl : c < w.heap.size := World.block_lt_of_cell? w _ c0
  have hcn : c ≠ w.heap.size := by omega
  have HB := Lib.hid ((Below.refl w.heap.size w).alloc (Nat.le_refl _) (.cells #[.int .i64 p', .int .i64 n'] 47))
  unfold spV
  simp only
  rw [HM.out]
  clear hx hy HM
  by_cases q1 : p < p'
  · rw [Int.max_eq_right (Int.le_of_lt q1)]
    by_cases q2 : p + n ≤ p' + n'
    · rw [Int.min_eq_left q2]
      go_enter Try.func24, Try.ntmps24
      go_wp2
      go_ret
      exact ⟨rfl, HB.out⟩
    · rw [Int.min_eq_right (by omega)]
      go_enter Try.func24, Try.ntmps24
      go_wp2
      go_ret
      exact ⟨rfl, HB.out⟩
  · have q1' : p' ≤ p := by omega
    rw [Int.max_eq_left q1']
    clear q1
    by_cases q2 : p + n ≤ p' + n'
    · rw [Int.min_eq_left q2]
      go_enter Try.func24, Try.ntmps24
      go_wp2
      go_ret
      exact ⟨rfl, HB.out⟩
    · rw [Int.min_eq_right (by omega)]
      go_enter Try.func24, Try.ntmps24
      go_wp2
      go_ret
      exact ⟨rfl, HB.out⟩

set_option maxHeartbeats 1600000 in
set_option maxRecDepth 100000 in
/-- slices.IndexFunc of spans, with overlaps' function of a span x that lies in block c. -/
theorem indexSp_any (A : Option Addr) (cap : Nat) (L : List SP) (c : Nat) (x : SP) (w : World) (hr : RdSp w A L) (hl : L.length ≤ 1000) (hx : insS x = true) (hL : ∀ k, k < L.length → insS (L.getD k sp0) = true) (hc : SpAt w c 0 x) :
    Calls Try.prog 25 #[.slice A L.length cap, .func (.func 24) #[] #[.pointer (some ⟨c, 0, none⟩)]] w fun e w' => (∃ r : Int, e = .returned (.int .i64 r) ∧ decide (0 ≤ r) = L.any (meetS x)) ∧ Below w.heap.size w w' := by
  have HR := Lib.hid hr
  have HL := Lib.hid hL
  have HCL := Lib.hid (fun y W (hy : insS y = true) (hW : Below w.heap.size w W) => ovl1_any c x y W hx hy (hc.below hW))
  clear hr hL hc hx
  go_enter Try.func25, Try.ntmps25
  go_wp2
  go_loopw [8] (fun i wr => ∃ k : Nat, k ≤ L.length ∧ i = .int .i64 k ∧ (∀ j, j < k → meetS x (L.getD j sp0) = false) ∧ Below w.heap.size w wr) (fun i _ => L.length - (intOf i).toNat)
  case atStart => exact ⟨0, Nat.zero_le _, rfl, fun _ h => absurd h (Nat.not_lt_zero _), Below.refl _ _⟩
  case round =>
    obtain ⟨k, hk, rfl, hall, hb⟩ := hrel
    have HALL := Lib.hid hall
    have HB := Lib.hid hb
    have hsz := hb.size
    clear hall hb
    by_cases hlt : k < L.length
    · have hki : (k : Int) < L.length := by omega
      obtain ⟨b, off, y, rfl, hpt, HX⟩ := (HR.out.below HB.out).at_ hlt
      have HC := Lib.hid (HCL.out y wr (by rw [← HX.out]; exact HL.out k hlt) HB.out)
      have HA1 : Hid (meetS x y = true → L.any (meetS x) = true) := fun h => any_sp hlt (by rw [HX.out]; exact h)
      have HA2 : Hid (meetS x y = false → ∀ j, j < k + 1 → meetS x (L.getD j sp0) = false) := fun h j hj => by
        by_cases e : j = k
        · subst e; rw [HX.out]; exact h
        · exact HALL.out j (by omega)
      generalize meetS x y = fx at *
      obtain ⟨p, n⟩ := y
      obtain ⟨h1, h2⟩ := hpt
      simp only at h1 h2
      simp only [spV] at HC
      clear HX
      go_wp2_with fail
      refine HC.out.mono ?_
      rintro e w1 ⟨rfl, hb1⟩
      have HB1 := Lib.hid (HB.out.trans (hb1.mono hsz))
      clear hb1 HC h1 h2
      cases fx with
      | true =>
        have HN := Lib.hid (HA1.out rfl)
        clear HA1 HA2
        go_wp2
        go_ret
        exact ⟨⟨_, rfl, by rw [HN.out]; exact decide_eq_true (by omega)⟩, HB1.out⟩
      | false =>
        have HN := Lib.hid (HA2.out rfl)
        clear HA1 HA2
        go_wp2
        go_roundw
        case rel => exact ⟨k + 1, by omega, by go_num, HN.out, HB1.out⟩
        case measure => simp [intOf]; omega
    · obtain rfl : k = L.length := by omega
      have HN := Lib.hid (any_sp_no HALL.out)
      go_wp2
      go_ret
      exact ⟨⟨_, rfl, by rw [HN.out]; rfl⟩, HB.out⟩
set_option maxHeartbeats 800000 in
set_option maxRecDepth 100000 in
theorem containsSp_any (A : Option Addr) (cap : Nat) (L : List SP) (c : Nat) (x : SP) (w : World) (hr : RdSp w A L) (hl : L.length ≤ 1000) (hx : insS x = true) (hL : ∀ k, k < L.length → insS (L.getD k sp0) = true) (hc : SpAt w c 0 x) :
    Calls Try.prog 23 #[.slice A L.length cap, .func (.func 24) #[] #[.pointer (some ⟨c, 0, none⟩)]] w fun e w' => e = .returned (.bool (L.any (meetS x))) ∧ Below w.heap.size w w' := by
  have HI := Lib.hid (indexSp_any A cap L c x w hr hl hx hL hc)
  generalize L.any (meetS x) = an at *
  clear hr hL hc hx
  go_enter Try.func23, Try.ntmps23
  go_wp2_with fail
  refine HI.out.mono ?_
  rintro e w1 ⟨⟨r, rfl, hr⟩, hb⟩
  clear HI
  go_wp2
  go_ret
  exact ⟨rfl, hb⟩
set_option maxHeartbeats 800000 in
set_option maxRecDepth 100000 in
theorem movl_any (A : Option Addr) (cap : Nat) (L : List SP) (x : SP) (w : World) (hr : RdSp w A L) (hl : L.length ≤ 1000) (hx : insS x = true) (hL : ∀ k, k < L.length → insS (L.getD k sp0) = true) :
    Calls Try.prog 22 #[spV x, .slice A L.length cap] w fun e w' => e = .returned (.bool (L.any (meetS x))) ∧ Below w.heap.size w w' := by
  have hba := (Below.refl w.heap.size w).alloc (Nat.le_refl _) (.cells (spC x) 47)
  have hA := Arr.new w 47 (spC x)
  have HB := Lib.hid hba
  have HC := Lib.hid (containsSp_any A cap L w.heap.size x _ (hr.below hba) hl hx hL ⟨hA.cell 0, hA.cell 1⟩)
  generalize L.any (meetS x) = an at *
  obtain ⟨p, n⟩ := x
  simp only [spC] at HC HB
  simp only [spV]
  clear hr hL hx hba hA
  go_enter Try.func22, Try.ntmps22
  go_wp2_with fail
  refine HC.out.mono ?_
  rintro e w1 ⟨rfl, hb⟩
  go_wp2
  go_ret
  exact ⟨rfl, HB.out.trans (hb.mono HB.out.size)⟩

/-- The spans of a slice, cell by cell. -/
def spsC (L : List SP) : List Value := L.flatMap fun x => [.int .i64 x.p, .int .i64 x.n]
theorem spsC_sp (R : List LD) : spsC (R.map LD.sp) = spsV R := by
  unfold spsC spsV
  rw [List.flatMap_map]
  rfl
theorem spsC_length (L : List SP) : (spsC L).length = L.length * 2 := by
  unfold spsC
  induction L with
  | nil => rfl
  | cons x R ih => rw [List.flatMap_cons, List.length_append, ih, List.length_cons]; simp only [List.length_cons, List.length_nil]; omega
theorem spsC_at (L : List SP) {k : Nat} (hk : k < L.length) : (spsC L)[k * 2]? = some (.int .i64 (L.getD k sp0).p) ∧ (spsC L)[k * 2 + 1]? = some (.int .i64 (L.getD k sp0).n) := by
  induction L generalizing k with
  | nil => cases hk
  | cons x R ih =>
    match k, hk with
    | 0, _ => exact ⟨rfl, rfl⟩
    | k + 1, hk =>
      have h := ih (k := k) (by simpa using hk)
      have e : spsC (x :: R) = .int .i64 x.p :: .int .i64 x.n :: spsC R := rfl
      rw [e, show (k + 1) * 2 = k * 2 + 1 + 1 by omega, show k * 2 + 1 + 1 + 1 = (k * 2 + 1) + 1 + 1 by omega]
      simpa using h
theorem spsC_one (L : List SP) : ∀ u ∈ spsC L, u.oneCell' = true := by
  intro u hu
  unfold spsC at hu
  simp only [List.mem_flatMap, List.mem_cons, List.not_mem_nil, or_false] at hu
  obtain ⟨x, _, rfl | rfl⟩ := hu <;> rfl
theorem rdSp_news {w : World} {b off : Nat} {L : List SP} (hr : RdSp w (some ⟨b, off, none⟩) L) (j : Nat) (u : Value) (hj : (spsC L)[j]? = some u) : w.cell? ⟨b, off + j, none⟩ = some u := by
  have hl := (List.getElem?_eq_some_iff.1 hj).1
  rw [spsC_length] at hl
  rcases hr with rfl | ⟨b', off', he, hc⟩
  · simp at hl
  · injection he with he
    injection he with h1 h2
    subst h1; subst h2
    have hk : j / 2 < L.length := by omega
    obtain ⟨c1, c2⟩ := hc (j / 2) hk
    obtain ⟨e1, e2⟩ := spsC_at L hk
    have hm : j = j / 2 * 2 ∨ j = j / 2 * 2 + 1 := by omega
    rcases hm with h | h
    · rw [← h] at e1 c1; rw [c1, ← hj, e1]
    · rw [← h] at e2; rw [show off + j / 2 * 2 + 1 = off + j by omega] at c2; rw [c2, ← hj, e2]
theorem rdSp_own {w : World} {base : Nat} {v : Value} {L : List SP} (h : w.ownsRow base 47 2 v L.length (spsC L)) : ∃ A cap, v = .slice A L.length cap ∧ RdSp w A L := by
  rcases h.2 with ⟨rfl, hz⟩ | ⟨g, cap, cur, rfl, _, hg, _, _, _, hx⟩
  · exact ⟨none, 0, by rw [hz], .inl (List.length_eq_zero_iff.1 hz)⟩
  · refine ⟨_, cap, rfl, .inr ⟨g, 0, rfl, fun k hk => ?_⟩⟩
    obtain ⟨e1, e2⟩ := spsC_at L hk
    rw [← hx, List.getElem?_take_of_lt (by omega), Array.getElem?_toList] at e1 e2
    rw [Nat.zero_add]
    exact ⟨(cell_of_row w g _ cur _ (0, 0) hg).trans e1, (cell_of_row w g _ cur _ (0, 0) hg).trans e2⟩
set_option maxHeartbeats 800000 in
set_option maxRecDepth 100000 in
/-- slices.Clone of spans. -/
theorem cloneSp_any (A : Option Addr) (cap : Nat) (L : List SP) (w : World) (hr : RdSp w A L) (hl : L.length ≤ 1000) :
    Calls Try.prog 20 #[.slice A L.length cap] w fun e w' => ∃ A' cap', e = .returned (.slice A' L.length cap') ∧ RdSp w' A' L ∧ Below w.heap.size w w' := by
  have q22 : ∀ (w : World) (a : Option Addr) (n c n' c' : Nat), (binOp .eql 23 (.slice a n c) (.slice none n' c')).run Try.prog w = .ok (.bool a.isNone) w := fun w a n c n' c' => Lib.run_eql_slice_nil w _ _ a n c n' c' Try.underlying23
  have HR := Lib.hid hr
  clear hr
  match A, HR with
  | none, HR =>
    have hz : L = [] := by
      rcases HR.out with h | ⟨b, off, h, _⟩
      · exact h
      · cases h
    subst hz
    go_enter Try.func20, Try.ntmps20
    go_wp2
    go_ret
    exact ⟨none, 0, rfl, .inl rfl, Below.refl _ _⟩
  | some ad, HR =>
    obtain ⟨hu, i0, hi0, hz0, hz1, hz2⟩ := elemSpan
    have HI := Lib.hid hi0
    have HZ0 := Lib.hid hz0
    have HZ1 := Lib.hid hz1
    have HZ2 := Lib.hid hz2
    have HL : Hid ((spsC L).length = L.length * 2) := spsC_length L
    have HNW : Hid (∀ (o : Obj) (j : Nat) (u : Value), (spsC L)[j]? = some u → (w.alloc o).cell? (ad.add j) = some u) := fun o j u hj => by
      rcases HR.out with rfl | ⟨b, off, h, hc⟩
      · cases hj
      · injection h with h
        subst h
        rw [Addr.add_lit]; exact Lib.cell?_alloc_some _ (rdSp_news (.inr ⟨b, off, rfl, hc⟩) j u hj)
    have H1 := Lib.hid (spsC_one L)
    clear hi0 hz0 hz1 hz2 hu
    go_enter Try.func20, Try.ntmps20
    go_wp2_with (at_builtin; refine wpList_append_own _ rfl (.tmp 5) (.tmp 6) 23 rfl w.heap.size 47 i0 (.agg #[.int .i64 0, .int .i64 0]) 2 16 Try.underlying23 HI.out HZ0.out HZ1.out HZ2.out rfl (by decide) _ 0 [] rfl (World.ownsRow_made w #[] 0 (Nat.le_refl _) (Nat.zero_le _) rfl) ad L.length cap (spsC L) rfl HL.out (HNW.out _) H1.out (by unfold maxLen; omega) (by omega) (by simp) ?_)
    intro v' w1 hown hgrow _
    obtain ⟨A', cap', rfl, hP⟩ := rdSp_own hown
    have HP := Lib.hid hP
    have HB := Lib.hid (((Below.refl w.heap.size w).alloc (Nat.le_refl _) (.cells #[] 47)).grown hgrow (by simp) (by intro k hk; simp [Value.ownBlock] at hk; omega))
    clear hown hgrow hP
    go_wp2
    go_ret
    exact ⟨_, _, rfl, HP.out, HB.out⟩
end Go.Proofs.Ytecfdcibjmakeaa
