/- The law GuardPlays: whatever comes in it returns true. Conditions: slices that read as numbers and as acts, numbers of 64 bits. -/
import Derived.Test.YtmfmkhbpaeckoaaGuG
import Derived.Deep.RegionHeld3
import Derived.Deep.DeepCutAuto
namespace Go.Proofs.Ytmfmkhbpaeckoaa
open Go.RowKit

theorem AcAt.below {w w' : World} {b o : Nat} {x : AC} {B : Nat} (h : AcAt w b o x) (hb : Below B w w') (hlt : b < B) : AcAt w' b o x := by
  have e : ∀ j, w'.cell? ⟨b, j, none⟩ = w.cell? ⟨b, j, none⟩ := fun j => World.cell?_of_block (a := ⟨b, j, none⟩) (hb.block b hlt)
  obtain ⟨h1, h2, h3, h4⟩ := h
  exact ⟨by rw [e]; exact h1, by rw [e]; exact h2, by rw [e]; exact h3, by rw [e]; exact h4⟩
theorem AcAt.lt {w : World} {b o : Nat} {x : AC} (h : AcAt w b o x) : b < w.heap.size := World.block_lt_of_cell? w _ h.1
/-- The pointers to two Guards that nobody made. -/
def nbG (z : Nat) : Array Value := #[.pointer none, .pointer (some ⟨z, 0, none⟩)]
theorem RG.grown {w w' : World} {g gx gc : Nat} {A : Option Addr} {cap : Nat} {L : List Int} {B : Nat} (h : RG w g gx A cap L) (hr : RdI B w A L) (hg : w.grownBy w' (some gc)) (hne : g ≠ gc) (hB : B ≤ gc) (hz : B ≤ w.heap.size) : RG w' g gx A cap L :=
  ⟨h.1.grown hg (fun e => hne (by injection e)), ((hr.grown hg hB hz).mono (Nat.le_trans hz hg.size))⟩

theorem gon_nb (q : Option Addr) (w : World) (hG : GD w q none (List.replicate 48 false)) : Calls Try.prog 13 #[.pointer q] w fun e w' => e = .returned (.bool false) ∧ Below w.heap.size w w' :=
  gon_any q none _ false w hG fun W _ => nob_on none W (.inl rfl)
theorem gops_nb (q : Option Addr) (w : World) (hG : GD w q none (List.replicate 48 false)) : Calls Try.prog 14 #[.pointer q] w fun e w' => e = .returned (.int .i64 0) ∧ Below w.heap.size w w' :=
  gops_any q none _ 0 w hG fun W _ => nob_ops none W (.inl rfl)
theorem glocked_nb (q : Option Addr) (w : World) (hG : GD w q none (List.replicate 48 false)) : Calls Try.prog 15 #[.pointer q, .slice (some ⟨w.heap.size, 0, none⟩) 1 1] (w.alloc (.cells #[.int .i64 0] 3)) fun e w' => e = .returned (.bool false) ∧ Below w.heap.size w w' :=
  glocked_lit [0] (by decide) q none _ w hG false (by rw [allK_one, inK_zero])
/-- All that the law holds: a flash that is c and its guard, the document's guard of a flash that is c', and two Guards that nobody made. -/
def Al (W : World) (gg gc gx gr : Nat) (K : List Bool) (c c' : St) (A1 : Option Addr) (cap1 : Nat) (M : List Int) : Prop :=
  Two W gg gc K c ∧ RR W gx c' ∧ RG W gr gx A1 cap1 M ∧ Arr W (gr + 1) 39 (lockC none (List.replicate 48 false)) ∧ Arr W (gr + 1 + 1) 28 (nbG (gr + 1))
section
variable {W W' : World} {gg gc gx gr : Nat} {K : List Bool} {c c' c2 : St} {A1 : Option Addr} {cap1 : Nat} {M : List Int}
theorem Al.below (h : Al W gg gc gx gr K c c' A1 cap1 M) (hb : Below W.heap.size W W') : Al W' gg gc gx gr K c c' A1 cap1 M := by
  obtain ⟨h1, h2, h3, h4, h5⟩ := h
  exact ⟨h1.below hb, h2.below hb h2.lt, h3.below hb, h4.below hb h4.lt, h5.below hb h5.lt⟩
theorem Al.nextN {B : Nat} (h : Al W gg gc gx gr K c c' A1 cap1 M) (hN : RN W' gc c2) (hg : W.grownBy W' (some gc)) (hr : RdI B W A1 M) (hB : B ≤ gc) (hz : B ≤ W.heap.size) (o : gc < gg ∧ gg < gx ∧ gx < gr) : Al W' gg gc gx gr K c2 c' A1 cap1 M := by
  obtain ⟨h1, h2, h3, h4, h5⟩ := h
  exact ⟨h1.next hN hg, h2.grown hg (by omega), h3.grown hr hg (by omega) hB hz, h4.grown hg (fun e => by injection e with e; omega), h5.grown hg (fun e => by injection e with e; omega)⟩
theorem Al.nextX {B : Nat} (h : Al W gg gc gx gr K c c' A1 cap1 M) (hX : RR W' gx c2) (hg : W.grownBy W' (some gx)) (hr : RdI B W A1 M) (hB : B ≤ gx) (hz : B ≤ W.heap.size) (o : gc < gg ∧ gg < gx ∧ gx < gr) : Al W' gg gc gx gr K c c2 A1 cap1 M := by
  obtain ⟨⟨h1, h1', h1''⟩, h2, h3, h4, h5⟩ := h
  exact ⟨⟨h1.grown hg (fun e => by injection e with e; injection e with e; omega), h1'.grown hg (by omega), h1''⟩, hX, h3.grown hr hg (by omega) hB hz, h4.grown hg (fun e => by injection e with e; omega), h5.grown hg (fun e => by injection e with e; omega)⟩
end

set_option maxHeartbeats 6400000 in
set_option maxRecDepth 100000 in
theorem guardPlays_any (s : ByteArray) (A1 : Option Addr) (cap1 : Nat) (M : List Int) (A : Option Addr) (cap : Nat) (L : List AC) (w : World) (hm : M.length ≤ maxLen) (hrm : RdI w.heap.size w A1 M) (hr : RdA w A L) (hl : L.length ≤ maxLen) (hn : ∀ k, k < L.length → (L.getD k ac0).n < 9223372036854775808 ∧ -9223372036854775808 ≤ (L.getD k ac0).pl ∧ (L.getD k ac0).pl < 9223372036854775808) :
    Calls Try.prog 3 #[.string s, .slice A1 M.length cap1, .slice A L.length cap] w fun e w' => e = .returned (.bool true) ∧ Below w.heap.size w w' := by
  have HAW := Lib.hid awake_any
  have HFEW : Hid (Calls Try.prog 5 #[.slice A L.length cap, .int .i64 12] w fun e w' => (∃ b : Bool, e = .returned (.bool b) ∧ (b = true → L.length ≤ 12 ∧ ∀ k, k < L.length → (L.getD k ac0).s.size ≤ 200)) ∧ w = w') := few_any A cap L 12 (by decide) w hr hl
  have hl2 : L.length ≤ 9223372036854775807 := by unfold maxLen at hl; omega
  by_cases hs : 300 < s.size
  · have hd : decide ((300 : Int) < s.size) = true := decide_eq_true (by omega)
    clear hs hr hn hl hrm hm
    go_enter Try.func3, Try.ntmps3
    go_wp2_with fail
    refine (HAW.out _).mono ?_
    rintro e w1 ⟨rfl, hb⟩
    go_wp2
    go_ret
    exact ⟨rfl, hb⟩
  have hd : decide ((300 : Int) < s.size) = false := decide_eq_false (by omega)
  by_cases hs2 : 12 < M.length
  · have hd2 : decide ((12 : Int) < M.length) = true := decide_eq_true (by omega)
    have hd3 : decide (12 < M.length) = true := decide_eq_true (by omega)
    clear hs hs2 hr hn hl hrm hm
    go_enter Try.func3, Try.ntmps3
    go_wp2_with fail
    refine (HAW.out _).mono ?_
    rintro e w1 ⟨rfl, hb⟩
    go_wp2
    go_ret
    exact ⟨rfl, hb⟩
  have hd2 : decide ((12 : Int) < M.length) = false := decide_eq_false (by omega)
  have hd3 : decide (12 < M.length) = false := decide_eq_false (by omega)
  have HL := Lib.hid (load_any s w (by omega))
  have HL2 := Lib.hid (fun W => refload_any s W (by omega))
  have HR := Lib.hid hr
  have HRM := Lib.hid hrm
  have HM := Lib.hid hm
  have HNN := Lib.hid hn
  clear hs hs2 hr hn hl hrm hm
  go_enter Try.func3, Try.ntmps3
  go_wp2_with fail
  refine HFEW.out.mono ?_
  rintro e w1 ⟨⟨b, rfl, hfew⟩, rfl⟩
  cases b with
  | false =>
    clear hfew
    go_wp2_with fail
    refine (HAW.out _).mono ?_
    rintro e w1 ⟨rfl, hb⟩
    go_wp2
    go_ret
    exact ⟨rfl, hb⟩
  | true =>
    obtain ⟨h24, hsz⟩ := hfew rfl
    have HSZ := Lib.hid hsz
    clear hfew hsz HFEW hd hd2 hd3
    go_wp2_with fail
    refine HL.out.mono ?_
    rintro e w1 ⟨gc, rfl, hgc, hr1, hb1⟩
    have H1 := Lib.hid hr1
    have HB1 := Lib.hid hb1
    have hlt1 := hr1.lt
    have hz1 := hb1.size
    clear hr1 hb1 HL
    have HGN := Lib.hid (gnew_any (some ⟨gc, 0, none⟩) A1 cap1 M w1 HM.out ((HRM.out.below HB1.out).mono hz1))
    have HK : Hid ((lkL M).length = 48) := lkL_length _
    generalize hKe : lkL M = K at HGN HK
    go_wp2_with fail
    refine HGN.out.mono ?_
    rintro e w2 ⟨gg, rfl, hgg, hA2, hb2⟩
    have H2 : Hid (Two w2 gg gc K (ldS s)) := ⟨⟨HK.out, .inr ⟨gg, rfl, hA2⟩⟩, H1.out.below hb2 hlt1, by omega⟩
    have HB2 := Lib.hid (HB1.out.trans (hb2.mono hz1))
    have hz2 := HB2.out.size
    have hz12 := hb2.size
    have hglt : gg < w2.heap.size := hA2.lt
    clear hA2 hb2 H1 HB1 HGN
    go_wp2_with fail
    refine (HL2.out _).mono ?_
    rintro e w3 ⟨gx, rfl, hgx, hx3, hb3⟩
    have H3 := Lib.hid (H2.out.below hb3)
    have HX := Lib.hid hx3
    have HB3 := Lib.hid (HB2.out.trans (hb3.mono hz2))
    have hgxl := hx3.lt
    have hz3 := HB3.out.size
    have hz23 := hb3.size
    clear hx3 hb3 H2 HB2 HL2
    obtain ⟨gr, hgr⟩ : ∃ gr, w3.heap.size = gr := ⟨_, rfl⟩
    have HW3 : Hid (∀ W, W = ((w3.alloc (.cells #[.pointer (some ⟨gx, 0, none⟩), .slice A1 M.length cap1] 34)).alloc (.cells (lockC none (List.replicate 48 false)) 39)).alloc (.cells #[.pointer none, .pointer (some ⟨gr + 1, 0, none⟩)] 28) →
        Al W gg gc gx gr K (ldS s) (ldS s) A1 cap1 M ∧ Below w.heap.size w W) := by
      rintro W rfl
      have e1 : (w3.alloc (.cells #[.pointer (some ⟨gx, 0, none⟩), .slice A1 M.length cap1] 34)).heap.size = gr + 1 := by rw [size_alloc, hgr]
      have bA : Below w3.heap.size w3 (((w3.alloc (.cells #[.pointer (some ⟨gx, 0, none⟩), .slice A1 M.length cap1] 34)).alloc (.cells (lockC none (List.replicate 48 false)) 39)).alloc (.cells #[.pointer none, .pointer (some ⟨gr + 1, 0, none⟩)] 28)) :=
        (((Below.refl _ _).alloc (Nat.le_refl _) _).alloc (by rw [size_alloc]; omega) _).alloc (by rw [size_alloc, size_alloc]; omega) _
      refine ⟨⟨H3.out.below bA, HX.out.below bA hgxl, ⟨?_, ?_⟩, ?_, ?_⟩, HB3.out.trans (bA.mono hz3)⟩
      · rw [← hgr]; exact ((Arr.new w3 _ _).alloc _).alloc _
      · exact ((HRM.out.below HB3.out).below' bA hz3).mono (Nat.le_trans hz3 bA.size)
      · rw [← e1]; exact (Arr.new _ _ _).alloc _
      · exact arr_new_at _ _ _ _ (by rw [size_alloc, e1])
    have ho : gc < gg ∧ gg < gx ∧ gx < gr := by omega
    have hwx : w.heap.size ≤ gx := by omega
    clear H3 HX HB3 hgxl hz3 hz23 hglt hz2 hz12 hlt1 hz1 hgg hgx
    go_wp2
    have HS := Lib.hid (HW3.out _ rfl)
    clear HW3
    go_loopw [11] (fun i wr => ∃ (k : Nat) (c : St), k ≤ L.length ∧ i = .int .i64 k ∧ c.ops ≤ 201 * k ∧ Al wr gg gc gx gr K c c A1 cap1 M ∧ Below w.heap.size w wr) (fun i _ => L.length - (intOf i).toNat)
    case atStart => exact ⟨0, ldS s, Nat.zero_le _, rfl, Nat.le_refl _, HS.out.1, HS.out.2⟩
    case round =>
      clear HS hgr
      obtain ⟨k, c, hk, rfl, hops, hAl, hb⟩ := hrel
      have HA := Lib.hid hAl
      have HB := Lib.hid hb
      have hzw := hb.size
      clear hAl hb
      by_cases hlt : k < L.length
      · have hki : (k : Int) < L.length := by omega
        obtain ⟨b, off, x, rfl, hAc, HXX⟩ := HR.out.at_ hlt
        have hblt := hAc.lt
        have HAC := Lib.hid hAc
        obtain ⟨c1, c2, c3, c4⟩ := hAc.below HB.out hblt
        have hxs := HSZ.out k hlt
        have hxn := HNN.out k hlt
        rw [HXX.out] at hxs hxn
        obtain ⟨hxn, hxp1, hxp2⟩ := hxn
        have HOX := Lib.hid (doG_ops K c x)
        have HDO := Lib.hid (gdo_any (some ⟨gg, 0, none⟩) gc K c x wr HA.out.1.1 HA.out.1.2.1 (by omega) hxn)
        have HWA := Lib.hid (fun W (h1 : RG W gr gx A1 cap1 M) (hW : RR W gx c) => gwants_any gr gx A1 cap1 M c x W h1 HM.out hW (by omega) hxn hxp1 hxs)
        rw [hKe] at HWA
        have HNB := Lib.hid (fun q W (hW : GD W q none (List.replicate 48 false)) => gdo_nb q x W hW)
        generalize doG K c x = d at HOX HDO HWA
        obtain ⟨c', r, er⟩ := d
        obtain ⟨kd, pl, n, sx⟩ := x
        simp only [acV] at HDO HWA HNB c1 c2 c3 c4 HOX hxs hxn hxp1 hxp2
        obtain ⟨ne, hne⟩ : ∃ ne, nbE kd = ne := ⟨_, rfl⟩
        rw [hne] at HNB
        have HNE : Hid ((((ne : Int) == 0) = false) ∨ (((ne : Int) == 0) = true ∧ decide (kd < 4) = true ∧ decide (0 < kd) = false ∧ (kd == 6) = false) ∨ (((ne : Int) == 0) = true ∧ decide (kd < 4) = false ∧ (kd == 6) = false)) := by
          unfold Hid
          rw [← hne]
          unfold nbE
          by_cases q : kd = 1 ∨ kd = 2 ∨ kd = 3 ∨ kd = 6
          · rw [if_pos q]; exact .inl rfl
          · rw [if_neg q]
            right
            have q6 : (kd == 6) = false := by simp; omega
            by_cases q4 : kd < 4
            · exact .inl ⟨rfl, decide_eq_true q4, decide_eq_false (by omega), q6⟩
            · exact .inr ⟨rfl, decide_eq_false q4, q6⟩
        clear HXX hAc hne
        go_wp2_with fail
        refine HDO.out.mono ?_
        rintro e w4 ⟨rfl, hN4, hg4⟩
        have HA4 := Lib.hid (HA.out.nextN hN4 hg4 (HRM.out.below HB.out) hgc hzw ho)
        have HB4 := Lib.hid (below_grown HB.out hg4 hgc hzw)
        have hz4 := HB4.out.size
        clear hN4 hg4 c1 c2 c3 c4 HDO HA HB hzw
        obtain ⟨c1, c2, c3, c4⟩ := HAC.out.below HB4.out hblt
        go_wp2_with fail
        refine (HWA.out _ HA4.out.2.2.1 HA4.out.2.1).mono ?_
        rintro e w5 ⟨rfl, hX5, hg5⟩
        have HA5 := Lib.hid (HA4.out.nextX hX5 hg5 (HRM.out.below HB4.out) hwx hz4 ho)
        have HB5 := Lib.hid (below_grown HB4.out hg5 hwx hz4)
        have hz5 := HB5.out.size
        clear hX5 hg5 c1 c2 c3 c4 HWA HA4 HB4 hz4
        have hopn : c'.ops ≤ 201 * (k + 1) := by have := HOX.out; omega
        obtain ⟨c1, c2, c3, c4⟩ := HAC.out.below HB5.out hblt
        have hbl5 : b < w5.heap.size := Nat.lt_of_lt_of_le hblt hz5
        obtain ⟨NB, hNB⟩ : ∃ NB : ByteArray, ⟨c'.B.toArray⟩ = NB := ⟨_, rfl⟩
        obtain ⟨on', hon'⟩ : ∃ on', c'.on = on' := ⟨_, rfl⟩
        obtain ⟨op', hop'⟩ : ∃ op' : Int, (c'.ops : Int) = op' := ⟨_, rfl⟩
        obtain ⟨lk, hlk⟩ : ∃ lk, inK K pl = lk := ⟨_, rfl⟩
        obtain ⟨_, fu, tn, hAx, _⟩ := id HA5.out.2.1
        have x0 := ref_B hAx
        have x1 := ref_on hAx
        have x4 := ref_ops hAx
        have y0 : w5.cell? ⟨gr, 0, none⟩ = some (.pointer (some ⟨gx, 0, none⟩)) := HA5.out.2.2.1.1.cell 0
        rw [hNB] at x0
        rw [hon'] at x1
        rw [hop'] at x4
        have hxl : gx < w5.heap.size := hAx.lt
        have hrl : gr < w5.heap.size := HA5.out.2.2.1.1.lt
        have HKP : Hid (∀ W, Below w5.heap.size w5 W → W.cell? ⟨gr, 0, none⟩ = some (.pointer (some ⟨gx, 0, none⟩)) ∧ W.cell? ⟨gx, 0, none⟩ = some (.string NB) ∧ W.cell? ⟨gx, 1, none⟩ = some (.bool on') ∧ W.cell? ⟨gx, 4, none⟩ = some (.int .i64 op') ∧ W.cell? ⟨b, off + k * 4 + 1, none⟩ = some (.int .i64 pl) ∧ Below w5.heap.size w5 W) := by
          intro W hW
          have e1 : ∀ i, W.cell? ⟨gx, i, none⟩ = w5.cell? ⟨gx, i, none⟩ := fun i => World.cell?_of_block (a := ⟨gx, i, none⟩) (hW.block gx hxl)
          exact ⟨(World.cell?_of_block (a := ⟨gr, 0, none⟩) (hW.block gr hrl)).trans y0, (e1 _).trans x0, (e1 _).trans x1, (e1 _).trans x4, (World.cell?_of_block (a := ⟨b, off + k * 4 + 1, none⟩) (hW.block b hbl5)).trans c2, hW⟩
        have HQ0 : Hid (∀ W, Below w5.heap.size w5 W → Calls Try.prog 12 #[.pointer (some ⟨gc, 0, none⟩)] W fun e w' => e = .returned (.string NB) ∧ w'.cell? ⟨gr, 0, none⟩ = some (.pointer (some ⟨gx, 0, none⟩)) ∧ w'.cell? ⟨gx, 0, none⟩ = some (.string NB) ∧ w'.cell? ⟨gx, 1, none⟩ = some (.bool on') ∧ w'.cell? ⟨gx, 4, none⟩ = some (.int .i64 op') ∧ w'.cell? ⟨b, off + k * 4 + 1, none⟩ = some (.int .i64 pl) ∧ Below w5.heap.size w5 w') := by
          intro W hW
          rw [← hNB] at HKP ⊢
          exact (bytes_any gc c' W (HA5.out.below hW).1.2.1).mono fun e w' ⟨h1, h2⟩ => ⟨h1, HKP.out _ (h2 ▸ hW)⟩
        have HQ1 : Hid (∀ W, Below w5.heap.size w5 W → Calls Try.prog 13 #[.pointer (some ⟨gg, 0, none⟩)] W fun e w' => e = .returned (.bool on') ∧ w'.cell? ⟨gr, 0, none⟩ = some (.pointer (some ⟨gx, 0, none⟩)) ∧ w'.cell? ⟨gx, 0, none⟩ = some (.string NB) ∧ w'.cell? ⟨gx, 1, none⟩ = some (.bool on') ∧ w'.cell? ⟨gx, 4, none⟩ = some (.int .i64 op') ∧ w'.cell? ⟨b, off + k * 4 + 1, none⟩ = some (.int .i64 pl) ∧ Below w5.heap.size w5 w') := by
          intro W hW
          rw [← hon'] at HKP ⊢
          exact (gon_rn _ gc K c' W (HA5.out.below hW).1.1 (HA5.out.below hW).1.2.1).mono fun e w' ⟨h1, h2⟩ => ⟨h1, HKP.out _ (hW.trans (h2.mono hW.size))⟩
        have HQ2 : Hid (∀ W, Below w5.heap.size w5 W → Calls Try.prog 14 #[.pointer (some ⟨gg, 0, none⟩)] W fun e w' => e = .returned (.int .i64 op') ∧ w'.cell? ⟨gr, 0, none⟩ = some (.pointer (some ⟨gx, 0, none⟩)) ∧ w'.cell? ⟨gx, 0, none⟩ = some (.string NB) ∧ w'.cell? ⟨gx, 1, none⟩ = some (.bool on') ∧ w'.cell? ⟨gx, 4, none⟩ = some (.int .i64 op') ∧ w'.cell? ⟨b, off + k * 4 + 1, none⟩ = some (.int .i64 pl) ∧ Below w5.heap.size w5 w') := by
          intro W hW
          rw [← hop'] at HKP ⊢
          exact (gops_rn _ gc K c' W (HA5.out.below hW).1.1 (HA5.out.below hW).1.2.1).mono fun e w' ⟨h1, h2⟩ => ⟨h1, HKP.out _ (hW.trans (h2.mono hW.size))⟩
        have HQ3 : Hid (∀ W b1, Below w5.heap.size w5 W → W.cell? ⟨b1, 0, none⟩ = some (.int .i64 pl) → Calls Try.prog 15 #[.pointer (some ⟨gg, 0, none⟩), .slice (some ⟨b1, 0, none⟩) 1 1] W fun e w' => e = .returned (.bool lk) ∧ w'.cell? ⟨gr, 0, none⟩ = some (.pointer (some ⟨gx, 0, none⟩)) ∧ w'.cell? ⟨gx, 0, none⟩ = some (.string NB) ∧ w'.cell? ⟨gx, 1, none⟩ = some (.bool on') ∧ w'.cell? ⟨gx, 4, none⟩ = some (.int .i64 op') ∧ w'.cell? ⟨b, off + k * 4 + 1, none⟩ = some (.int .i64 pl) ∧ Below w5.heap.size w5 w' ∧ ∀ b2, W.cell? ⟨b2, 0, none⟩ = some (.int .i64 pl) → w'.cell? ⟨b2, 0, none⟩ = some (.int .i64 pl)) := by
          intro W b1 hW hc
          have hrd : RdI W.heap.size W (some ⟨b1, 0, none⟩) [pl] := .inr ⟨b1, 0, rfl, World.block_lt_of_cell? W _ hc, fun j hj => by
            obtain rfl : j = 0 := by simp at hj; omega
            exact hc⟩
          have := glocked_any (some ⟨gg, 0, none⟩) _ K (some ⟨b1, 0, none⟩) 1 [pl] W (HA5.out.below hW).1.1 (by show 1 ≤ maxLen; decide) hrd
          rw [allK_one, hlk] at this
          exact this.mono fun e w' ⟨h1, h2⟩ => ⟨h1, (HKP.out _ (hW.trans (h2.mono hW.size))).1, (HKP.out _ (hW.trans (h2.mono hW.size))).2.1, (HKP.out _ (hW.trans (h2.mono hW.size))).2.2.1, (HKP.out _ (hW.trans (h2.mono hW.size))).2.2.2.1, (HKP.out _ (hW.trans (h2.mono hW.size))).2.2.2.2.1, (HKP.out _ (hW.trans (h2.mono hW.size))).2.2.2.2.2, fun b2 h3 => (World.cell?_of_block (a := ⟨b2, 0, none⟩) (h2.block b2 (World.block_lt_of_cell? W _ h3))).trans h3⟩
        have HQ4 : Hid (∀ W b1, Below w5.heap.size w5 W → W.cell? ⟨b1, 0, none⟩ = some (.int .i64 pl) → Calls Try.prog 16 #[.pointer (some ⟨gr, 0, none⟩), .slice (some ⟨b1, 0, none⟩) 1 1] W fun e w' => e = .returned (.bool lk) ∧ w'.cell? ⟨gr, 0, none⟩ = some (.pointer (some ⟨gx, 0, none⟩)) ∧ w'.cell? ⟨gx, 0, none⟩ = some (.string NB) ∧ w'.cell? ⟨gx, 1, none⟩ = some (.bool on') ∧ w'.cell? ⟨gx, 4, none⟩ = some (.int .i64 op') ∧ w'.cell? ⟨b, off + k * 4 + 1, none⟩ = some (.int .i64 pl) ∧ Below w5.heap.size w5 w') := by
          intro W b1 hW hc
          have hrd : RdI W.heap.size W (some ⟨b1, 0, none⟩) [pl] := .inr ⟨b1, 0, rfl, World.block_lt_of_cell? W _ hc, fun j hj => by
            obtain rfl : j = 0 := by simp at hj; omega
            exact hc⟩
          have := refLocked_any gr gx A1 cap1 M (some ⟨b1, 0, none⟩) 1 [pl] W (HA5.out.below hW).2.2.1 HM.out hrd (by show 1 ≤ maxLen; decide)
          rw [allK_one, hKe, hlk] at this
          exact this.mono fun e w' ⟨h1, h2⟩ => ⟨h1, HKP.out _ (h2 ▸ hW)⟩
        have hbd : Below w5.heap.size w5 w5.drew := (Below.refl _ _).drew
        have HAL : Hid (∀ W (o : Obj), Below w5.heap.size w5 W → Below w5.heap.size w5 (W.alloc o)) := fun W o h => h.alloc h.size o
        clear hNB hon' hop' hlk hAx HOX
        go_upto_region 12 with fail
        go_cut [133] (fun s133 wx => s133 = .bool false ∧ Below w5.heap.size w5 wx)
        case first => as_aux_lemma =>
          go_region_held3 (fun w' => w'.cell? ⟨gr, 0, none⟩ = some (.pointer (some ⟨gx, 0, none⟩)) ∧ w'.cell? ⟨gx, 0, none⟩ = some (.string NB) ∧ w'.cell? ⟨gx, 1, none⟩ = some (.bool on') ∧ w'.cell? ⟨gx, 4, none⟩ = some (.int .i64 op') ∧ w'.cell? ⟨b, off + k * 4 + 1, none⟩ = some (.int .i64 pl) ∧ Below w5.heap.size w5 w') (first | exact HKP.out _ (by assumption) | exact HKP.out _ (HAL.out _ _ (by assumption)) | exact HKP.out _ (HAL.out _ _ (HAL.out _ _ (by assumption))))
            (first | (go_at_call 12; refine (HQ0.out _ (by assumption)).mono ?_; rintro e w6 ⟨rfl, pz1, pz2, pz3, pz4, pz5, pz6⟩) | (go_at_call 13; refine (HQ1.out _ (by assumption)).mono ?_; rintro e w7 ⟨rfl, qz1, qz2, qz3, qz4, qz5, qz6⟩) | (go_at_call 14; refine (HQ2.out _ (by assumption)).mono ?_; rintro e w8 ⟨rfl, rz1, rz2, rz3, rz4, rz5, rz6⟩) | (go_at_call 15; refine (HQ3.out _ _ (by first | assumption | exact HAL.out _ _ (by assumption) | exact HAL.out _ _ (HAL.out _ _ (by assumption))) (by first | exact (Arr.new _ _ _).cell 0 | exact ((Arr.new _ _ _).alloc _).cell 0 | exact (Arr.new1 _ _ _ _).cell 0)).mono ?_; rintro e w9 ⟨rfl, tz1, tz2, tz3, tz4, tz5, tz6, tz7⟩) | (go_at_call 16; refine (HQ4.out _ _ (by first | assumption | exact HAL.out _ _ (by assumption)) (by first | exact (Arr.new _ _ _).cell 0 | exact tz7 _ (((Arr.new _ _ _).alloc _).cell 0) | exact tz7 _ ((Arr.new1 _ _ _ _).cell 0))).mono ?_; rintro e w10 ⟨rfl, s1, s2, s3, s4, s5, s6⟩))
          all_goals (go_wp2_with fail; go_meet; exact ⟨rfl, s6⟩)
        case rest => as_aux_lemma =>
          obtain ⟨rfl, hbc⟩ := hcut
          have HA10 := Lib.hid (HA5.out.below hbc)
          have HB10 := Lib.hid (HB5.out.trans (hbc.mono hz5))
          clear hbc
          clear HKP HQ0 HQ1 HQ2 HQ3 HQ4 HAL hbd x0 x1 x4 y0 c1 c2 c3 c4 HA5 HB5
          go_wp2
          go_loopw [16] (fun i wq => ∃ j : Nat, j ≤ 2 ∧ i = .int .i64 j ∧ Below wc.heap.size wc wq) (fun i _ => 2 - (intOf i).toNat)
          case atStart => exact ⟨0, Nat.zero_le _, rfl, Below.refl _ _⟩
          case round =>
            obtain ⟨j, hj, rfl, hbq⟩ := hrel
            have HBQ := Lib.hid hbq
            have HAq := Lib.hid (HA10.out.below hbq)
            have HBw := Lib.hid (HB10.out.trans (hbq.mono HB10.out.size))
            have hzq := hbq.size
            clear hbq
            by_cases hj2 : j < 2
            · have hji : (j : Int) < 2 := by omega
              obtain ⟨p, hpc, hpn⟩ : ∃ p, wr.cell? ⟨gr + 1 + 1, j, none⟩ = some (.pointer p) ∧ GD wr p none (List.replicate 48 false) := by
                obtain ⟨_, _, _, hZ, hP⟩ := HAq.out
                match j, hj2 with
                | 0, _ => exact ⟨none, hP.cell 0, List.length_replicate, .inl ⟨rfl, rfl, rfl⟩⟩
                | 1, _ => exact ⟨some ⟨gr + 1, 0, none⟩, hP.cell 1, List.length_replicate, .inr ⟨gr + 1, rfl, hZ⟩⟩
              have HPN := Lib.hid hpn
              obtain ⟨c1, c2, c3, c4⟩ := HAC.out.below HBw.out hblt
              have hpl1 : gr + 1 + 1 < wr.heap.size := HAq.out.2.2.2.2.lt
              have hbl2 : b < wr.heap.size := Nat.lt_of_lt_of_le hblt HBw.out.size
              have HD2 : Hid (∀ W, Below wr.heap.size wr W → Calls Try.prog 10 #[.pointer p, .pointer none, .agg #[.int .i64 kd, .int .i64 pl, .int .i64 n, .string sx]] W fun e w' => e = .returned (.tuple #[.string ⟨#[]⟩, .int .i64 (ne : Int)]) ∧ w'.cell? ⟨gr + 1 + 1, j, none⟩ = some (.pointer p) ∧ w'.cell? ⟨b, off + k * 4, none⟩ = some (.int .i64 kd) ∧ w'.cell? ⟨b, off + k * 4 + 1, none⟩ = some (.int .i64 pl) ∧ w'.cell? ⟨b, off + k * 4 + 2, none⟩ = some (.int .i64 n) ∧ w'.cell? ⟨b, off + k * 4 + 3, none⟩ = some (.string sx) ∧ Below wr.heap.size wr w') := by
                intro W hW
                refine (HNB.out p W (HPN.out.below hW)).mono ?_
                rintro e w' ⟨he, hb'⟩
                have hbb := hW.trans (hb'.mono hW.size)
                have e1 : ∀ i, w'.cell? ⟨b, i, none⟩ = wr.cell? ⟨b, i, none⟩ := fun i => World.cell?_of_block (a := ⟨b, i, none⟩) (hbb.block b hbl2)
                exact ⟨he, (World.cell?_of_block (a := ⟨gr + 1 + 1, j, none⟩) (hbb.block _ hpl1)).trans hpc, (e1 _).trans c1, (e1 _).trans c2, (e1 _).trans c3, (e1 _).trans c4, hbb⟩
              have hbd : Below wr.heap.size wr wr.drew := (Below.refl _ _).drew
              have HCP : Hid (∀ W, Below wr.heap.size wr W → W.cell? ⟨gr + 1 + 1, j, none⟩ = some (.pointer p)) := fun W hW => (World.cell?_of_block (a := ⟨gr + 1 + 1, j, none⟩) (hW.block _ hpl1)).trans hpc
              clear hpn
              go_wp2
              go_region_held3 (fun w' => w'.cell? ⟨gr + 1 + 1, j, none⟩ = some (.pointer p) ∧ w'.cell? ⟨b, off + k * 4, none⟩ = some (.int .i64 kd) ∧ w'.cell? ⟨b, off + k * 4 + 1, none⟩ = some (.int .i64 pl) ∧ w'.cell? ⟨b, off + k * 4 + 2, none⟩ = some (.int .i64 n) ∧ w'.cell? ⟨b, off + k * 4 + 3, none⟩ = some (.string sx) ∧ Below wr.heap.size wr w') (go_keep) (first | (go_at_call 10; refine (HD2.out _ (by assumption)).mono ?_; rintro e w11 ⟨rfl, s1, s2, s3, s4, s5, s6⟩))
              have HB11 := Lib.hid s6
              clear hbd HD2 c2 c3 c4 s6 hpc
              rcases HNE.out with q1 | ⟨q1, q2, q3, q4⟩ | ⟨q1, q2, q4⟩
              all_goals
                go_wp2_with fail
                refine (gon_nb p _ (HPN.out.below HB11.out)).mono ?_
                rintro e w12 ⟨rfl, hb12⟩
                have HB12 := Lib.hid (HB11.out.trans (hb12.mono HB11.out.size))
                have k12 := HCP.out _ HB12.out
                clear hb12
                go_wp2_with fail
                refine (gops_nb p _ (HPN.out.below HB12.out)).mono ?_
                rintro e w13 ⟨rfl, hb13⟩
                have HB13 := Lib.hid (HB12.out.trans (hb13.mono HB12.out.size))
                have k13 := HCP.out _ HB13.out
                clear hb13 k12
                go_wp2_with fail
                refine (glocked_nb p _ (HPN.out.below HB13.out)).mono ?_
                rintro e w14 ⟨rfl, hb14⟩
                have HB14 := Lib.hid (HBQ.out.trans ((HB13.out.trans (hb14.mono HB13.out.size)).mono hzq))
                clear hb14 k13
                go_wp2
                go_roundw
                case rel => exact ⟨j + 1, by omega, by go_num, HB14.out⟩
                case measure => simp [intOf]; omega
            · obtain rfl : j = 2 := by omega
              go_wp2
              go_roundw
              case rel => exact ⟨k + 1, c', by omega, by go_num, hopn, HAq.out, HBw.out⟩
              case measure => simp [intOf]; omega
      · have HLK := Lib.hid (glocked_any (some ⟨gg, 0, none⟩) _ K A1 cap1 M wr HA.out.1.1 HM.out ((HRM.out.below HB.out).mono hzw))
        have HRL : Hid (∀ W, Below wr.heap.size wr W → Calls Try.prog 16 #[.pointer (some ⟨gr, 0, none⟩), .slice A1 M.length cap1] W fun e w' => e = .returned (.bool (allK K M)) ∧ W = w') := by
          intro W hW
          have := refLocked_any gr gx A1 cap1 M A1 cap1 M W (HA.out.below hW).2.2.1 HM.out (HA.out.below hW).2.2.1.2 HM.out
          rwa [hKe] at this
        generalize allK K M = v at HLK HRL
        go_wp2_with fail
        refine HLK.out.mono ?_
        rintro e w4 ⟨rfl, hb4⟩
        have HR4 := Lib.hid (HRL.out w4 hb4)
        have HB4 := Lib.hid (HB.out.trans (hb4.mono hzw))
        clear hb4 HLK HRL
        go_wp2_with fail
        refine HR4.out.mono ?_
        rintro e w5 ⟨rfl, rfl⟩
        go_wp2_with fail
        refine (HAW.out _).mono ?_
        rintro e w6 ⟨rfl, hb6⟩
        have HB6 := Lib.hid (HB4.out.trans (hb6.mono HB4.out.size))
        clear hb6
        go_wp2
        go_ret
        exact ⟨rfl, HB6.out⟩
end Go.Proofs.Ytmfmkhbpaeckoaa
