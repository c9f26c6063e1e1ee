/- The law RamPlays: whatever comes in it returns true. Conditions: slices that read as acts and as spans, numbers of 64 bits, the second slice no longer than its capacity. -/
import Derived.Test.YtecfdcibjmakeaaRaP
import Derived.Deep.RegionHeld3
import Derived.Deep.DeepCutAuto
import Derived.BigQuiet
import Derived.Deep.CutBlock
namespace Go.Proofs.Ytecfdcibjmakeaa
open Go.RowKit

/-- The pointers to two Rams that nobody made. -/
def nbR (z : Nat) : Array Value := #[.pointer none, .pointer (some ⟨z, 0, none⟩)]
/-- Two Rams that nobody made, and the slice of pointers to them. -/
def Nb7 (W : World) (gz gn : Nat) : Prop := W.cell? ⟨gz, 0, none⟩ = some (.bool false) ∧ W.cell? ⟨gn, 0, none⟩ = some (.pointer none) ∧ W.cell? ⟨gn, 1, none⟩ = some (.pointer (some ⟨gz, 0, none⟩))
def N2 (gz gn k : Nat) : Prop := k = gz ∨ k = gn
def N3 (gz gn ga k : Nat) : Prop := k = gz ∨ k = gn ∨ k = ga
theorem Nb7.same {W W' : World} {gz gn : Nat} {N : Nat → Prop} (h : Nb7 W gz gn) (hs : SameB N W W') (h1 : N gz) (h2 : N gn) : Nb7 W' gz gn := ⟨hs.cell h1 h.1, hs.cell h2 h.2.1, hs.cell h2 h.2.2⟩
/-- All, with the act in a block of its own. -/
def Rd7 (w W : World) (q : Option Addr) (gx : Nat) (vL vS : Value) (F : Nat → Prop) (gz gn ga : Nat) (x : RA) (Rm Rd : List LD) : Prop :=
  Pl7 w W q gx vL vS F (N3 gz gn ga) Rm Rd ∧ Nb7 W gz gn ∧ RaAt W ga 0 x
section
variable {w W W' : World} {q : Option Addr} {gx gz gn ga : Nat} {vL vS : Value} {F : Nat → Prop} {x : RA} {Rm Rd : List LD}
theorem raAt_same {N : Nat → Prop} (h : RaAt W ga 0 x) (hs : SameB N W W') (hN : N ga) : RaAt W' ga 0 x := ⟨hs.cell hN h.1, hs.cell hN h.2.1, hs.cell hN h.2.2.1, hs.cell hN h.2.2.2⟩
theorem Rd7.same (h : Rd7 w W q gx vL vS F gz gn ga x Rm Rd) {gx' : Nat} {vL' vS' : Value} {F' : Nat → Prop} {Rm' Rd' : List LD} (hp : Pl7 w W' q gx' vL' vS' F' (N3 gz gn ga) Rm' Rd' ∧ SameB (N3 gz gn ga) W W') : Rd7 w W' q gx' vL' vS' F' gz gn ga x Rm' Rd' :=
  ⟨hp.1, h.2.1.same hp.2 (.inl rfl) (.inr (.inl rfl)), raAt_same h.2.2 hp.2 (.inr (.inr rfl))⟩
theorem Rd7.below (h : Rd7 w W q gx vL vS F gz gn ga x Rm Rd) (hb : Below W.heap.size W W') : Rd7 w W' q gx vL vS F gz gn ga x Rm Rd := h.same (h.1.below hb)
theorem Rd7.new (h : Pl7 w W q gx vL vS F (N2 gz gn) Rm Rd) (hn : Nb7 W gz gn) (x : RA) : Rd7 w (W.alloc (.cells #[.int .i64 x.kind, .int .i64 x.p, .int .i64 x.n, .string x.s] 36)) q gx vL vS F gz gn W.heap.size x Rm Rd := by
  obtain ⟨h1, h2⟩ := h.more (.cells #[.int .i64 x.kind, .int .i64 x.p, .int .i64 x.n, .string x.s] 36)
  have hA := Arr.new W 36 #[.int .i64 x.kind, .int .i64 x.p, .int .i64 x.n, .string x.s]
  refine ⟨h1.fewer fun k hk => ?_, hn.same h2 (.inl rfl) (.inr rfl), hA.cell 0, hA.cell 1, hA.cell 2, hA.cell 3⟩
  rcases hk with rfl | rfl | rfl
  · exact .inl (.inl rfl)
  · exact .inl (.inr rfl)
  · exact .inr rfl
theorem rd7_load (h : Rd7 w W q gx vL vS F gz gn ga x Rm Rd) (hR : Rm.length ≤ 100) (h1 : x.p < 9223372036854775808 ∧ -9223372036854775808 ≤ x.p) (h3 : x.s.size ≤ 200) :
    Calls Try.prog 7 #[.pointer q, .int .i64 x.p, .string x.s] W fun e w' => e = .returned (.int .i64 ((ldR Rm x.p x.s).2 : Int)) ∧ ∃ F', Rd7 w w' q gx vL vS F' gz gn ga x (ldR Rm x.p x.s).1 Rd :=
  (pl7_load h.1 hR x.p x.s h1.1 h1.2 h3).mono fun _ _ ⟨h4, F', h5⟩ => ⟨h4, F', h.same h5⟩
theorem rd7_rload (h : Rd7 w W q gx vL vS F gz gn ga x Rm Rd) (hR : Rd.length ≤ 100) :
    Calls Try.prog 8 #[.pointer (some ⟨gx, 0, none⟩), .int .i64 x.p, .string x.s] W fun e w' => e = .returned (.int .i64 ((ldR Rd x.p x.s).2 : Int)) ∧ ∃ vL' vS', Rd7 w w' q gx vL' vS' F gz gn ga x Rm (ldR Rd x.p x.s).1 :=
  (pl7_rload h.1 hR x.p x.s).mono fun _ _ ⟨h4, vL', vS', h5⟩ => ⟨h4, vL', vS', h.same h5⟩
theorem rd7_clear (h : Rd7 w W q gx vL vS F gz gn ga x Rm Rd) :
    Calls Try.prog 11 #[.pointer q] W fun e w' => e = .returned (.tuple #[]) ∧ ∃ F', Rd7 w w' q gx vL vS F' gz gn ga x [] Rd :=
  (pl7_clear h.1).mono fun _ _ ⟨h4, F', h5⟩ => ⟨h4, F', h.same h5⟩
theorem rd7_read (h : Rd7 w W q gx vL vS F gz gn ga x Rm Rd) (a n : Int) :
    Calls Try.prog 9 #[.pointer q, .int .i64 a, .int .i64 n] W fun e w' => e = .returned (.tuple #[.string (rdR Rm a n).1, .int .i64 ((rdR Rm a n).2 : Int)]) ∧ Rd7 w w' q gx vL vS F gz gn ga x Rm Rd := by
  obtain ⟨g, v, hq, _, hr⟩ := h.1.rb
  have := mread_any g v Rm a n W hr
  rw [← hq] at this
  exact this.mono fun _ _ ⟨h1, h2⟩ => ⟨h1, h2 ▸ h⟩
theorem rd7_rread (h : Rd7 w W q gx vL vS F gz gn ga x Rm Rd) (hR : Rd.length ≤ 100) (a n : Int) :
    Calls Try.prog 10 #[.pointer (some ⟨gx, 0, none⟩), .int .i64 a, .int .i64 n] W fun e w' => e = .returned (.tuple #[.string (rdR Rd a n).1, .int .i64 ((rdR Rd a n).2 : Int)]) ∧ Rd7 w w' q gx vL vS F gz gn ga x Rm Rd :=
  (rread_any gx vL vS Rd a n W h.1.dr h.1.okd hR).mono fun _ _ ⟨h1, h2⟩ => ⟨h1, h.below h2⟩
end
theorem ldR_length (R : List LD) (a : Int) (s : ByteArray) : (ldR R a s).1.length ≤ R.length + 1 := by
  unfold ldR
  split
  · simp
  · exact Nat.le_succ _
/-- The numbers of acts are of 64 bits. -/
def Fits7 (L : List RA) : Prop := ∀ k, k < L.length → (L.getD k ra0).p < 9223372036854775808 ∧ -9223372036854775808 ≤ (L.getD k ra0).p

set_option maxHeartbeats 6400000 in
set_option maxRecDepth 100000 in
theorem ramPlays_any (A : Option Addr) (cap : Nat) (L : List RA) (A' : Option Addr) (cap' : Nat) (l : List SP) (w : World) (hr : RdRa w A L) (hl : L.length ≤ maxLen) (hf : Fits7 L) (hk : RdSp w A' l) (hm : l.length ≤ maxLen) (hcp : l.length ≤ cap' ∧ cap' ≤ maxLen) (hfl : ∀ k, k < l.length → (l.getD k sp0).p < 9223372036854775808 ∧ -9223372036854775808 ≤ (l.getD k sp0).p ∧ (l.getD k sp0).n < 9223372036854775808 ∧ -9223372036854775808 ≤ (l.getD k sp0).n) :
    Calls Try.prog 3 #[.slice A L.length cap, .slice A' l.length cap'] w fun e w' => e = .returned (.bool true) ∧ Below w.heap.size w w' := by
  have HAW := Lib.hid (awake7 ram_must)
  have hl2 : L.length ≤ 9223372036854775807 := by unfold maxLen at hl; omega
  have hm2 : l.length ≤ 9223372036854775807 := by unfold maxLen at hm; omega
  have HR := Lib.hid hr
  have HFT := Lib.hid hf
  have HASK := Lib.hid hk
  have HCP := Lib.hid hcp
  have HFL := Lib.hid hfl
  have HNEW := Lib.hid (ram_must.new w)
  clear hr hf hl hk hm hcp hfl
  by_cases h20 : 20 < L.length
  · have d0 : decide ((20 : Int) < L.length) = true := decide_eq_true (by omega)
    clear h20
    go_enter Try.func3, Try.ntmps3
    go_wp2_with fail
    refine (HAW.out _).mono ?_
    rintro e w1 ⟨rfl, hb⟩
    go_wp2
    go_ret
    exact ⟨rfl, hb⟩
  have d0 : decide ((20 : Int) < L.length) = false := decide_eq_false (by omega)
  by_cases h8 : 8 < l.length
  · have d1 : decide ((8 : Int) < l.length) = true := decide_eq_true (by omega)
    clear h8
    go_enter Try.func3, Try.ntmps3
    go_wp2_with fail
    refine (HAW.out _).mono ?_
    rintro e w1 ⟨rfl, hb⟩
    go_wp2
    go_ret
    exact ⟨rfl, hb⟩
  have d1 : decide ((8 : Int) < l.length) = false := decide_eq_false (by omega)
  have HL8 : Hid (l.length ≤ 8) := by unfold Hid; omega
  clear h8
  go_enter Try.func3, Try.ntmps3
  go_wp2_with fail
  refine HNEW.out.mono ?_
  rintro e w1 ⟨q, F0, rfl, hr1, hF1, hb1⟩
  have hzz := zeroRam
  have hn0 : ram0 ≠ #[] := fun e => by
    have : ram0.size = 65538 := by unfold ram0; rw [ramC_size, List.length_replicate]
    rw [e] at this; cases this
  have HW3 : Hid (∀ c0, c0 = ram0 → ∀ W, W = ((w1.alloc (.cells #[.slice none 0 0, .slice none 0 0] 30)).alloc (.cells c0 33)).alloc (.cells #[.pointer none, .pointer (some ⟨w1.heap.size + 1, 0, none⟩)] 25) →
      Pl7 w W q w1.heap.size (.slice none 0 0) (.slice none 0 0) F0 (N2 (w1.heap.size + 1) (w1.heap.size + 1 + 1)) [] [] ∧ Nb7 W (w1.heap.size + 1) (w1.heap.size + 1 + 1)) := by
    rintro c0 rfl W rfl
    have p0 := pl7_first hr1 hF1 hb1
    have hs0 : (w1.alloc (.cells #[.slice none 0 0, .slice none 0 0] 30)).heap.size = w1.heap.size + 1 := sz_alloc _ _
    have p1 := (p0.more (.cells ram0 33)).1
    have a1 := Arr.new (w1.alloc (.cells #[.slice none 0 0, .slice none 0 0] 30)) 33 ram0
    have hs1 : ((w1.alloc (.cells #[.slice none 0 0, .slice none 0 0] 30)).alloc (.cells ram0 33)).heap.size = w1.heap.size + 1 + 1 := by rw [sz_alloc, hs0]
    rw [hs0] at p1 a1
    generalize (w1.alloc (.cells #[.slice none 0 0, .slice none 0 0] 30)).alloc (.cells ram0 33) = W1 at *
    have p2 := (p1.more (.cells #[.pointer none, .pointer (some ⟨w1.heap.size + 1, 0, none⟩)] 25)).1
    have a2 := Arr.new W1 25 #[.pointer none, .pointer (some ⟨w1.heap.size + 1, 0, none⟩)]
    rw [hs1] at p2 a2
    refine ⟨p2.fewer fun k hk => ?_, ram_made (a1.alloc _), a2.cell 0, a2.cell 1⟩
    rcases hk with rfl | rfl
    · exact .inl (.inr rfl)
    · exact .inr rfl
  obtain ⟨c0, hc0⟩ : ∃ c0, c0 = ram0 := ⟨_, rfl⟩
  rw [← hc0] at hzz hn0
  have HW4 := Lib.hid (HW3.out c0 hc0)
  clear hr1 hF1 hb1 HNEW HW3 hc0
  go_wp2
  have HS := Lib.hid (HW4.out _ rfl)
  clear HW4 hzz hn0
  obtain ⟨gz, hgz⟩ : ∃ gz, w1.heap.size + 1 = gz := ⟨_, rfl⟩
  obtain ⟨gn, hgn⟩ : ∃ gn, gz + 1 = gn := ⟨_, rfl⟩
  rw [hgz, hgn] at HS
  simp only [hgz, hgn]
  clear hgz hgn
  go_loopw [6, 8] (fun v c wr => ∃ (i gx : Nat) (vL vS : Value) (F : Nat → Prop) (R : List LD), i ≤ L.length ∧ v = .pointer (some ⟨gx, 0, none⟩) ∧ c = .int .i64 i ∧ R.length ≤ i ∧ Pl7 w wr q gx vL vS F (N2 gz gn) R R ∧ Nb7 wr gz gn) (fun _ c _ => L.length - (intOf c).toNat)
  case atStart =>
    exact ⟨0, _, _, _, F0, [], Nat.zero_le _, rfl, rfl, Nat.le_refl _, HS.out.1, HS.out.2⟩
  case round =>
    clear HS
    obtain ⟨i, gx, vL, vS, F, R, hi, rfl, rfl, hRi, hpl, hnb⟩ := hrel
    have HP := Lib.hid hpl
    have HN := Lib.hid hnb
    have HB := Lib.hid hpl.bel
    have hz := hpl.bel.size
    clear hpl hnb
    by_cases hlt : i < L.length
    · have hii : (i : Int) < L.length := by omega
      obtain ⟨b, off, x, rfl, hx, HX⟩ := (HR.out.below HB.out).at_ hlt
      have hfx := HFT.out i hlt
      rw [HX.out] at hfx
      have HD := Lib.hid (Rd7.new HP.out HN.out x)
      have HF7 := Lib.hid hfx
      obtain ⟨kd, p, n, s⟩ := x
      simp only at hfx HD
      obtain ⟨c0, c1, c2, c3⟩ := hx
      simp only at c0 c1 c2 c3
      have hbl : b < wr.heap.size := World.block_lt_of_cell? wr _ c0
      clear HX HP HN
      go_upto_region 9 with fail
      generalize wr.alloc (.cells #[.int .i64 kd, .int .i64 p, .int .i64 n, .string s] 36) = W at *
      generalize wr.heap.size = ga at *
      clear c0 c1 c2 c3 hbl HB hz
      have z0 : W.cell? ⟨ga, 0, none⟩ = some (.int .i64 kd) := HD.out.2.2.1
      have z3 : W.cell? ⟨ga, 3, none⟩ = some (.string s) := HD.out.2.2.2.2.2
      have HB := Lib.hid HD.out.1.bel
      have hz := HB.out.size
      by_cases hs : 200 < s.size
      · have e0 : decide ((200 : Int) < s.size) = true := decide_eq_true (by omega)
        clear hs
        go_wp2_with fail
        refine (HAW.out _).mono ?_
        rintro e w7 ⟨rfl, hb7⟩
        have HB7 := Lib.hid (HB.out.trans (hb7.mono hz))
        clear hb7
        go_wp2
        go_ret
        exact ⟨rfl, HB7.out⟩
      have e0 : decide ((200 : Int) < s.size) = false := decide_eq_false (by omega)
      have hs2 : s.size ≤ 200 := by omega
      clear hs
      go_upto_block 2 with fail
      go_cut [6] (fun s6 wx => ∃ (gx' : Nat) (vL' vS' : Value) (F' : Nat → Prop) (R' : List LD), s6 = .pointer (some ⟨gx', 0, none⟩) ∧ R'.length ≤ i + 1 ∧ Rd7 w wx q gx' vL' vS' F' gz gn ga ⟨kd, p, n, s⟩ R' R')
      case first => as_aux_lemma =>
        by_cases k1 : kd = 1
        · have e1 : (kd == 1) = true := by simpa using k1
          have HLL := Lib.hid (ldR_length R p s)
          have HQ1 : Hid (∀ W1, Rd7 w W1 q gx vL vS F gz gn ga ⟨kd, p, n, s⟩ R R → _) := fun W1 h1 => rd7_load h1 (by omega) hfx hs2
          have HQ2 : Hid (∀ W1 F', Rd7 w W1 q gx vL vS F' gz gn ga ⟨kd, p, n, s⟩ (ldR R p s).1 R → _) := fun W1 F' h1 => rd7_rload h1 (by omega)
          simp only at HQ1 HQ2
          generalize ldR R p s = zz at *
          obtain ⟨R', r⟩ := zz
          simp only at HQ1 HQ2 HLL
          have HKP : Hid (∀ (W1 : World) (vL' vS' : Value) (F' : Nat → Prop) (Rm Rd : List LD), Rd7 w W1 q gx vL' vS' F' gz gn ga ⟨kd, p, n, s⟩ Rm Rd → W1.cell? ⟨ga, 1, none⟩ = some (.int .i64 p) ∧ W1.cell? ⟨ga, 3, none⟩ = some (.string s)) := fun W1 vL' vS' F' Rm Rd h1 => ⟨h1.2.2.2.1, h1.2.2.2.2.2⟩
          have h0 : Rd7 w W.drew q gx vL vS F gz gn ga ⟨kd, p, n, s⟩ R R := HD.out.below (Below.refl _ _).drew
          have d9 : ((r : Int) != (r : Int)) = false := by simp
          clear k1
          go_upto_region 13 with fail
          clear z0 z3
          go_cut [63] (fun s63 wx => s63 = .bool false ∧ ∃ vL' vS' F', Rd7 w wx q gx vL' vS' F' gz gn ga ⟨kd, p, n, s⟩ R' R')
          case first => as_aux_lemma =>
            first | (go_region_held3 (fun w' => w'.cell? ⟨ga, 1, none⟩ = some (.int .i64 p) ∧ w'.cell? ⟨ga, 3, none⟩ = some (.string s)) (first | exact HKP.out _ _ _ _ _ _ h0 | exact HKP.out _ _ _ _ _ _ (by assumption)) (first | (go_at_call 7; refine (HQ1.out _ h0).mono ?_; rintro e w7 ⟨rfl, F7, h7⟩) | (go_at_call 8; refine (HQ2.out _ _ (by assumption)).mono ?_; rintro e w8 ⟨rfl, vL8, vS8, h8⟩))) | fail
            all_goals (go_wp2_with fail; go_meet; exact ⟨by first | rfl | rw [d9], _, _, _, by assumption⟩)
          case rest => as_aux_lemma =>
            obtain ⟨rfl, vL', vS', F', hd⟩ := hcut
            have H8 := Lib.hid hd
            clear hd h0 HQ1 HQ2 HKP HD HB hz
            go_wp2_with fail
            go_meet
            exact ⟨_, _, _, _, _, rfl, by have := HLL.out; omega, H8.out⟩
        · have e1 : (kd == 1) = false := by simpa using k1
          by_cases k2 : kd = 2
          · have e2 : (kd == 2) = true := by simpa using k2
            have HQ1 := Lib.hid (rd7_read HD.out p n)
            have HQ2 := Lib.hid (fun W1 (h1 : Rd7 w W1 q gx vL vS F gz gn ga ⟨kd, p, n, s⟩ R R) => rd7_rread h1 (by omega) p n)
            generalize rdR R p n = zz at *
            obtain ⟨S0, r0⟩ := zz
            simp only at HQ1 HQ2
            have z1 : W.cell? ⟨ga, 1, none⟩ = some (.int .i64 p) := HD.out.2.2.2.1
            have z2 : W.cell? ⟨ga, 2, none⟩ = some (.int .i64 n) := HD.out.2.2.2.2.1
            clear k1 k2
            go_wp2_with fail
            refine HQ1.out.mono ?_
            rintro e w7 ⟨rfl, h7⟩
            have H7 := Lib.hid h7
            clear z0 z1 z2 z3 HQ1 HD h7
            have z1 : w7.cell? ⟨ga, 1, none⟩ = some (.int .i64 p) := H7.out.2.2.2.1
            have z2 : w7.cell? ⟨ga, 2, none⟩ = some (.int .i64 n) := H7.out.2.2.2.2.1
            go_wp2_with fail
            refine (HQ2.out _ H7.out).mono ?_
            rintro e w8 ⟨rfl, h8⟩
            have H8 := Lib.hid h8
            clear z1 z2 HQ2 H7 h8
            go_wp2_with fail
            go_meet
            exact ⟨_, _, _, _, _, rfl, by omega, H8.out⟩
          · have e2 : (kd == 2) = false := by simpa using k2
            by_cases k3 : kd = 3
            · have e3 : (kd == 3) = true := by simpa using k3
              have HQ1 := Lib.hid (rd7_clear HD.out)
              clear k1 k2 k3
              go_wp2_with fail
              refine HQ1.out.mono ?_
              rintro e w7 ⟨rfl, F7, h7⟩
              have H8 := Lib.hid (h7.same h7.1.fresh)
              clear z0 z3 HQ1 HD h7
              go_wp2_with fail
              go_meet
              exact ⟨_, _, _, _, _, rfl, Nat.zero_le _, H8.out⟩
            · have e3 : (kd == 3) = false := by simpa using k3
              have H8 := Lib.hid HD.out
              clear k1 k2 k3
              go_wp2_with fail
              go_meet
              exact ⟨_, _, _, _, _, rfl, by omega, H8.out⟩
      case rest => as_aux_lemma =>
        clear HD HB hz z0 z3 HF7 hfx
        obtain ⟨gx2, vL2, vS2, F2, R2, rfl, hR2, hd2⟩ := hcut
        generalize wc = W2 at *
        have H2 := Lib.hid hd2
        have HB2 := Lib.hid hd2.1.bel
        have hz2 := HB2.out.size
        obtain ⟨AL, capL, rfl, hspL⟩ := hd2.1.dr.spans
        have HSL := Lib.hid hspL
        have hc0 : W2.cell? ⟨gx2, 0, none⟩ = some (.slice AL (R2.map LD.sp).length capL) := hd2.1.dr.1.cell 0
        have HOK := Lib.hid hd2.1.okm
        have HRB := Lib.hid hd2.1.rb
        have hRl : R2.length ≤ 100 := by omega
        have hKl : (R2.map LD.sp).length ≤ maxLen := by unfold maxLen; rw [List.length_map]; omega
        have hKi : ∀ k, k < (R2.map LD.sp).length → insS ((R2.map LD.sp).getD k sp0) = true := fun k hk => by
          rw [List.length_map] at hk
          rw [sp_getD R2 hk]; exact (HOK.out.1 k hk).1
        have HKP : Hid (∀ W', Below W2.heap.size W2 W' → W'.cell? ⟨gx2, 0, none⟩ = some (.slice AL (R2.map LD.sp).length capL) ∧ Below W2.heap.size W2 W') := fun W' hW => ⟨cell_below hc0 hW, hW⟩
        have HQ1 : Hid (∀ W', Below W2.heap.size W2 W' → Calls Try.prog 13 #[.pointer q] W' fun e w' => ∃ A2 cap2, e = .returned (.slice A2 (R2.map LD.sp).length cap2) ∧ RdSp w' A2 (R2.map LD.sp) ∧ w'.cell? ⟨gx2, 0, none⟩ = some (.slice AL (R2.map LD.sp).length capL) ∧ Below W2.heap.size W2 w') :=
          fun W' hW => (ram_must.spans W' q F2 R2 (ram_must.below _ _ _ _ _ HRB.out hW) HOK.out hRl).mono fun _ _ ⟨A2, cap2, h1, h2, h3⟩ => ⟨A2, cap2, h1, h2, HKP.out _ (hW.trans (h3.mono hW.size))⟩
        have HQ2 : Hid (∀ W' A2 cap2, RdSp W' A2 (R2.map LD.sp) → Below W2.heap.size W2 W' → Calls Try.prog 12 #[.slice A2 (R2.map LD.sp).length cap2, .slice AL (R2.map LD.sp).length capL] W' fun e w' => e = .returned (.bool true) ∧ w'.cell? ⟨gx2, 0, none⟩ = some (.slice AL (R2.map LD.sp).length capL) ∧ Below W2.heap.size W2 w') :=
          fun W' A2 cap2 hA2 hW => (sameSp_any A2 AL cap2 capL (R2.map LD.sp) W' hKl hA2 (HSL.out.below hW)).mono fun _ _ ⟨h1, h3⟩ => ⟨h1, HKP.out _ (hW.trans (h3.mono hW.size))⟩
        have HQ3 : Hid (∀ W', Below W2.heap.size W2 W' → Calls Try.prog 14 #[.pointer q, .slice A' l.length cap'] W' fun e w' => e = .returned (.int .i64 (ckR (R2.map LD.sp) l : Int)) ∧ w'.cell? ⟨gx2, 0, none⟩ = some (.slice AL (R2.map LD.sp).length capL) ∧ Below W2.heap.size W2 w') :=
          fun W' hW => (ram_must.check W' q F2 R2 A' cap' l (ram_must.below _ _ _ _ _ HRB.out hW) HOK.out hRl (HASK.out.below (HB2.out.trans (hW.mono hz2))) (Nat.le_trans HL8.out (by decide)) HCP.out.1 HCP.out.2 HFL.out).mono fun _ _ ⟨h1, h3⟩ => ⟨h1, HKP.out _ (hW.trans (h3.mono hW.size))⟩
        have HQ4 : Hid (∀ W', Below W2.heap.size W2 W' → Calls Try.prog 15 #[.pointer (some ⟨gx2, 0, none⟩), .slice A' l.length cap'] W' fun e w' => e = .returned (.int .i64 (ckR (R2.map LD.sp) l : Int)) ∧ w'.cell? ⟨gx2, 0, none⟩ = some (.slice AL (R2.map LD.sp).length capL) ∧ Below W2.heap.size W2 w') :=
          fun W' hW => (rck_any gx2 AL capL (R2.map LD.sp) A' cap' l W' (HKP.out W' hW).1 (HSL.out.below hW) hKi (HASK.out.below (HB2.out.trans (hW.mono hz2))) hKl (Nat.le_trans HL8.out (by unfold maxLen; decide))).mono fun _ _ ⟨h1, h3⟩ => ⟨h1, HKP.out _ (hW.trans (h3.mono hW.size))⟩
        generalize R2.map LD.sp = K at *
        generalize ckR K l = rr at *
        have hbd : Below W2.heap.size W2 W2.drew := (Below.refl _ _).drew
        have d9 : ((rr : Int) != (rr : Int)) = false := by simp
        clear hd2 hspL hKi hKl HRB HOK
        go_upto_region 23 with fail
        go_cut [114] (fun s114 wx => s114 = .bool false ∧ Below W2.heap.size W2 wx)
        case first => as_aux_lemma =>
          first | (go_region_held3 (fun w' => w'.cell? ⟨gx2, 0, none⟩ = some (.slice AL K.length capL) ∧ Below W2.heap.size W2 w') (exact HKP.out _ (by assumption)) (first | (go_at_call 13; refine (HQ1.out _ (by assumption)).mono ?_; rintro e w7 ⟨A2, cap2, rfl, hP7, s1, s2⟩) | (go_at_call 12; refine (HQ2.out _ _ _ (by assumption) (by assumption)).mono ?_; rintro e w8 ⟨rfl, s3, s4⟩) | (go_at_call 14; refine (HQ3.out _ (by assumption)).mono ?_; rintro e w9 ⟨rfl, s5, s6⟩) | (go_at_call 15; refine (HQ4.out _ (by assumption)).mono ?_; rintro e w10 ⟨rfl, s7, s8⟩))) | fail
          all_goals (go_wp2_with fail; go_meet; exact ⟨by first | rfl | rw [d9], by assumption⟩)
        case rest => as_aux_lemma =>
          obtain ⟨rfl, hbc⟩ := hcut
          have H3 := Lib.hid (H2.out.below hbc)
          clear hbc hbd HQ1 HQ2 HQ3 HQ4 HKP hc0 HSL H2 HB2 hz2 d9
          go_wp2
          go_loopw [14] (fun c wq => ∃ j : Nat, j ≤ 2 ∧ c = .int .i64 j ∧ Below wc.heap.size wc wq) (fun c _ => 2 - (intOf c).toNat)
          case atStart => exact ⟨0, Nat.zero_le _, rfl, Below.refl _ _⟩
          case round =>
            obtain ⟨j, hj, rfl, hbq⟩ := hrel
            have H4 := Lib.hid (H3.out.below hbq)
            have HBQ := Lib.hid hbq
            have hzq := hbq.size
            clear hbq
            by_cases hj2 : j < 2
            · have hji : (j : Int) < 2 := by omega
              obtain ⟨pp, hpc, hpn⟩ : ∃ pp, wr.cell? ⟨gn, j, none⟩ = some (.pointer pp) ∧ Nob7 wr pp := by
                match j, hj2 with
                | 0, _ => exact ⟨none, H4.out.2.1.2.1, .inl rfl⟩
                | 1, _ => exact ⟨some ⟨gz, 0, none⟩, H4.out.2.1.2.2, .inr ⟨gz, rfl, H4.out.2.1.1⟩⟩
              have HPN := Lib.hid hpn
              have z1 : wr.cell? ⟨ga, 1, none⟩ = some (.int .i64 p) := H4.out.2.2.2.1
              have z2 : wr.cell? ⟨ga, 2, none⟩ = some (.int .i64 n) := H4.out.2.2.2.2.1
              have z3 : wr.cell? ⟨ga, 3, none⟩ = some (.string s) := H4.out.2.2.2.2.2
              have HQ1 := Lib.hid (nob7_clear pp wr hpn)
              have HQ2 : Hid (∀ m, Calls Try.prog 9 #[.pointer pp, .int .i64 p, .int .i64 n] (wr.drewN m) fun e w' => e = .returned (.tuple #[.string ⟨#[]⟩, .int .i64 2]) ∧ ∃ m, w' = wr.drewN m) :=
                fun m => (nob7_read pp p n (wr.drewN m) (HPN.out.below (below_drewN _ _))).mono fun _ _ ⟨h1, h2⟩ => ⟨h1, m, h2.symm⟩
              clear hpn
              go_wp2_with fail
              refine HQ1.out.mono ?_
              rintro e w7 ⟨rfl, rfl⟩
              clear HQ1
              go_wp2
              go_quiet ((go_at_call 9; exact HQ2.out _))
              have HB5 := Lib.hid (HBQ.out.trans ((below_drewN wr nq).mono hzq))
              have HN5 := Lib.hid (HPN.out.below (below_drewN wr nq))
              have y0 : (wr.drewN nq).cell? ⟨gn, j, none⟩ = some (.pointer pp) := cell_below hpc (below_drewN wr nq)
              have y1 : (wr.drewN nq).cell? ⟨ga, 1, none⟩ = some (.int .i64 p) := cell_below z1 (below_drewN wr nq)
              have y3 : (wr.drewN nq).cell? ⟨ga, 3, none⟩ = some (.string s) := cell_below z3 (below_drewN wr nq)
              generalize wr.drewN nq = w5 at *
              clear hpc z1 z2 z3 HPN HQ2 HBQ hzq H4
              have HKP : Hid (∀ W', Below w5.heap.size w5 W' → W'.cell? ⟨gn, j, none⟩ = some (.pointer pp) ∧ W'.cell? ⟨ga, 1, none⟩ = some (.int .i64 p) ∧ W'.cell? ⟨ga, 3, none⟩ = some (.string s) ∧ Below w5.heap.size w5 W') :=
                fun W' hW => ⟨cell_below y0 hW, cell_below y1 hW, cell_below y3 hW, hW⟩
              have HQ3 : Hid (∀ W', Below w5.heap.size w5 W' → Calls Try.prog 7 #[.pointer pp, .int .i64 p, .string s] W' fun e w' => e = .returned (.int .i64 2) ∧ w'.cell? ⟨gn, j, none⟩ = some (.pointer pp) ∧ w'.cell? ⟨ga, 1, none⟩ = some (.int .i64 p) ∧ w'.cell? ⟨ga, 3, none⟩ = some (.string s) ∧ Below w5.heap.size w5 w') :=
                fun W' hW => (nob7_load pp p s W' (HN5.out.below hW)).mono fun _ _ ⟨h1, h3⟩ => ⟨h1, HKP.out _ (hW.trans (h3.mono hW.size))⟩
              have HQ4 : Hid (∀ W', Below w5.heap.size w5 W' → Calls Try.prog 13 #[.pointer pp] W' fun e w' => e = .returned (.slice none 0 0) ∧ w'.cell? ⟨gn, j, none⟩ = some (.pointer pp) ∧ w'.cell? ⟨ga, 1, none⟩ = some (.int .i64 p) ∧ w'.cell? ⟨ga, 3, none⟩ = some (.string s) ∧ Below w5.heap.size w5 w') :=
                fun W' hW => (nob7_spans pp W' (HN5.out.below hW)).mono fun _ _ ⟨h1, h3⟩ => ⟨h1, HKP.out _ (h3 ▸ hW)⟩
              have hbd : Below w5.heap.size w5 w5.drew := (Below.refl _ _).drew
              go_upto_region 30 with fail
              go_cut [160] (fun s160 wx => s160 = .bool false ∧ Below w5.heap.size w5 wx)
              case first => as_aux_lemma =>
                first | (go_region_held3 (fun w' => w'.cell? ⟨gn, j, none⟩ = some (.pointer pp) ∧ w'.cell? ⟨ga, 1, none⟩ = some (.int .i64 p) ∧ w'.cell? ⟨ga, 3, none⟩ = some (.string s) ∧ Below w5.heap.size w5 w') (exact HKP.out _ (by assumption)) (first | (go_at_call 7; refine (HQ3.out _ (by assumption)).mono ?_; rintro e w7 ⟨rfl, s1, s2, s3, s4⟩) | (go_at_call 13; refine (HQ4.out _ (by assumption)).mono ?_; rintro e w8 ⟨rfl, t1, t2, t3, t4⟩))) | fail
                all_goals (go_wp2_with fail; go_meet; exact ⟨rfl, by assumption⟩)
              case rest => as_aux_lemma =>
                obtain ⟨rfl, hbc⟩ := hcut
                have HB6 := Lib.hid (HB5.out.trans (hbc.mono HB5.out.size))
                clear hbc hbd HQ3 HQ4 HKP y0 y1 y3 HN5
                go_wp2
                go_roundw
                case rel => exact ⟨j + 1, by omega, by go_num, HB6.out⟩
                case measure => simp [intOf]; omega
            · obtain rfl : j = 2 := by omega
              have HPE : Hid (Pl7 w wr q gx2 (.slice AL K.length capL) vS2 F2 (N2 gz gn) R2 R2) := H4.out.1.fewer fun k hk => hk.elim .inl (fun h => .inr (.inl h))
              have HNE := Lib.hid H4.out.2.1
              clear H4 HBQ hzq
              go_wp2
              go_roundw
              case rel => exact ⟨i + 1, gx2, _, vS2, F2, R2, by omega, rfl, by go_num, hR2, HPE.out, HNE.out⟩
              case measure => simp [intOf]; omega
    · obtain rfl : i = L.length := by omega
      go_wp2_with fail
      refine (HAW.out _).mono ?_
      rintro e w7 ⟨rfl, hb7⟩
      have HB7 := Lib.hid (HB.out.trans (hb7.mono hz))
      clear hb7
      go_wp2
      go_ret
      exact ⟨rfl, HB7.out⟩
end Go.Proofs.Ytecfdcibjmakeaa
