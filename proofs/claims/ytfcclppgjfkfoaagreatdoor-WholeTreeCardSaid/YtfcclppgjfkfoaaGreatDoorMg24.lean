/- The walk of WholeTree. Conditions: the contracts of packages edit, encode and decode; slices that are read, strings of Go's lengths. -/
import Derived.Test.YtfcclppgjfkfoaaGreatDoorMg16
import Derived.Test.YtfcclppgjfkfoaaGreatDoorMg23
namespace Go.Proofs.YtfcclppgjfkfoaaGreatDoor
open Go.RowKit

/-- The slice at A reads as the changes l. -/
def ch0 : CH := ⟨0, ByteArray.empty, ByteArray.empty⟩
def RdCh (w : World) (A : Option Addr) (l : List CH) : Prop := l = [] ∨ ∃ b off, A = some ⟨b, off, none⟩ ∧ ∀ k, k < l.length → w.cell? ⟨b, off + k * 3, none⟩ = some (.int .i64 (l.getD k ch0).kd) ∧ w.cell? ⟨b, off + k * 3 + 1, none⟩ = some (.string (l.getD k ch0).nm) ∧ w.cell? ⟨b, off + k * 3 + 2, none⟩ = some (.string (l.getD k ch0).vl)
theorem RdCh.at_ {w : World} {A : Option Addr} {l : List CH} (h : RdCh w A l) {k : Nat} (hk : k < l.length) : ∃ b off x, A = some ⟨b, off, none⟩ ∧ (w.cell? ⟨b, off + k * 3, none⟩ = some (.int .i64 (x : CH).kd) ∧ w.cell? ⟨b, off + k * 3 + 1, none⟩ = some (.string x.nm) ∧ w.cell? ⟨b, off + k * 3 + 2, none⟩ = some (.string x.vl)) ∧ Hid (l.getD k ch0 = x) := by
  rcases h with rfl | ⟨b, off, rfl, hc⟩
  · simp at hk
  · exact ⟨b, off, _, rfl, hc k hk, rfl⟩
theorem RdCh.below {w w' : World} {A : Option Addr} {l : List CH} (h : RdCh w A l) (hb : Below w.heap.size w w') : RdCh w' A l := by
  rcases h with h | ⟨b, off, rfl, hc⟩
  · exact .inl h
  · have M := Moved.of_below hb (fun _ => False)
    exact .inr ⟨b, off, rfl, fun k hk => ⟨cell_kept M id (hc k hk).1, cell_kept M id (hc k hk).2.1, cell_kept M id (hc k hk).2.2⟩⟩
/-- Spans stay where another block changes. -/
theorem RdSp.kept17 {w w' : World} {A : Option Addr} {L : List SP} {F F' : Nat → Prop} (h : RdSp w A L) (hn : L = [] ∨ ∃ b off, A = some ⟨b, off, none⟩ ∧ ¬ F b) (hm : Moved w w' F F') : RdSp w' A L := by
  rcases h with h | ⟨b, off, rfl, hc⟩
  · exact .inl h
  · rcases hn with h | ⟨b', off', e, hb⟩
    · exact .inl h
    · injection e with e
      injection e with e1 e2
      subst e1
      exact .inr ⟨b, off, rfl, fun k hk => ⟨cell_kept hm hb (hc k hk).1, cell_kept hm hb (hc k hk).2⟩⟩
/-- Spans that are there lie below. -/
theorem RdSp.low17 {w : World} {A : Option Addr} {L : List SP} (h : RdSp w A L) {g : Nat} (hg : w.heap.size ≤ g) : L = [] ∨ ∃ b off, A = some ⟨b, off, none⟩ ∧ ¬ b = g := by
  rcases h with h | ⟨b, off, rfl, hc⟩
  · exact .inl h
  · by_cases hL : L = []
    · exact .inl hL
    · have h0 : 0 < L.length := by
        have : L.length ≠ 0 := fun e => hL (List.length_eq_zero_iff.1 e)
        omega
      have := World.block_lt_of_cell? w _ (hc 0 h0).1
      exact .inr ⟨b, off, rfl, fun e => by have h2 : b < w.heap.size := this; omega⟩
theorem told_enOk {T : DT} {W : Nat} (h : Told T W) (hW : W ≤ 6000) : EnOk T ∧ DtIn T := by
  obtain ⟨h1, h2, h3, h4, h5, h6⟩ := told_sz h hW
  refine ⟨⟨by omega, by omega, by omega, fun k hk => ?_, by unfold maxLen; omega⟩, by have := h.b0; have := h.b1; unfold in64; omega, fun x hx => by have := h6 x hx; unfold in64; omega⟩
  have := h4 _ (getD_mem (d := tk0) hk)
  omega
/-- A change that is not done gives no tree. -/
theorem fitsTo_bad {n : ND} (h : (fitsTo n).2 ≠ 0) : (fitsTo n).1 = nd0 := by
  unfold fitsTo at h ⊢
  split
  · rfl
  · split
    · rename_i h1 h2; rw [if_neg h1, if_pos h2] at h; exact absurd rfl h
    · rfl
theorem doN_bad {n : ND} {l : List ByteArray} {c : CH} (h : (doN n l c).2 ≠ 0) : (doN n l c).1 = nd0 := by
  unfold doN at h ⊢
  split
  · rename_i h0; rw [if_pos h0] at h; exact fitsTo_bad h
  · rfl
theorem makeN_bad : ∀ (r : List ByteArray) (n : ND) (d : List ByteArray), (makeN n d r).2 ≠ 0 → (makeN n d r).1 = nd0
  | [], n, d, h => fitsTo_bad h
  | x :: r, n, d, h => by
    rw [makeN] at h ⊢
    split
    · rename_i h1; rw [if_pos h1] at h; exact makeN_bad r _ _ h
    · rename_i h1
      rw [if_neg h1] at h
      split
      · rename_i h2; rw [if_pos h2] at h; exact makeN_bad r _ _ h
      · rfl
theorem do_bad {n : ND} {p : List UInt8} {c : CH} (h : (doR17 n p c).2 ≠ 0) : (doR17 n p c).1 = nd0 := by
  cases hp : (partsR p).2 with
  | false => rw [do_no hp]
  | true => rw [do_doN hp] at h ⊢; exact doN_bad h
theorem edit_bad {n : ND} {p : List UInt8} {c : CH} (h : (editR n p c).2 ≠ 0) : (editR n p c).1 = nd0 := by
  unfold editR at h ⊢
  split
  · rename_i h1; rw [if_pos h1] at h; exact do_bad h
  · rename_i h1
    rw [if_neg h1] at h
    split
    · rename_i h2
      rw [if_pos h2] at h
      unfold dropR17 at h ⊢
      split
      · rename_i h3
        rw [if_pos h3] at h
        unfold dropN at h ⊢
        split
        · rfl
        · rename_i h4; rw [if_neg h4] at h; exact doN_bad h
      · rfl
    · rename_i h2
      rw [if_neg h2] at h
      unfold makeR17 at h ⊢
      split
      · rename_i h3; rw [if_pos h3] at h; exact makeN_bad _ _ _ h
      · rfl
theorem edit_stays {n m : ND} {p : List UInt8} {c : CH} (hv : c.vl.size ≤ 300) (h : editR n p c = (m, 0)) : Stays n m 312 := by
  unfold editR at h
  split at h
  · exact do_stays hv h
  · split at h
    · exact drop_stays h
    · exact make_stays h
theorem told_mono {T : DT} {W W' : Nat} (h : Told T W) (hW : W ≤ W') : Told T W' := ⟨h.fit, h.good, Nat.le_trans h.w hW, h.few, h.sp, h.b0, h.b1⟩
theorem sz_told {T : DT} {W : Nat} (h : Told T W) : SzT T.rt := sz_of_fits h.fit

set_option maxHeartbeats 6400000 in
set_option maxRecDepth 100000 in
theorem wholeTree_any (M : EditMust) (E : EncTree) (D : DecMust) (s : ByteArray) (AP : Option Addr) (capP : Nat) (PL : List ByteArray) (AC : Option Addr) (capC : Nat) (CL : List CH) (w : World) (hs : s.size ≤ maxLen) (hp : RdT w AP PL) (hc : RdCh w AC CL)
    (hpl : PL.length ≤ maxLen) (hcl : CL.length ≤ maxLen) (hpz : ∀ k, k < PL.length → (PL.getD k ByteArray.empty).size ≤ maxLen) :
    Calls Tryz.prog 3 #[.string s, .slice AP PL.length capP, .slice AC CL.length capC] w fun e w' => e = .returned (.bool true) ∧ Below w.heap.size w w' := by
  have HAW := Lib.hid (awakeTree_any M E D.tree)
  have HP := Lib.hid hp
  have HC := Lib.hid hc
  have HB := Lib.hid (Below.refl w.heap.size w)
  have HPZ := Lib.hid hpz
  unfold maxLen at hs hpl hcl
  clear hp hc hpz
  by_cases c1 : 2048 < s.size
  · have d1 : decide ((2048 : Int) < (s.size : Int)) = true := decide_eq_true (by omega)
    clear c1 M E D
    go_enter Tryz.func3, Tryz.ntmps3
    go_wp2_with fail
    refine (HAW.out _).mono ?_
    rintro e w9 ⟨rfl, hb⟩
    have HB := Lib.hid (HB.out.trans (hb.mono HB.out.size))
    clear hb
    go_wp2
    go_ret
    exact ⟨rfl, HB.out⟩
  have d1 : decide ((2048 : Int) < (s.size : Int)) = false := decide_eq_false (by omega)
  by_cases c2 : 8 < CL.length
  · have d2 : decide ((8 : Int) < (CL.length : Int)) = true := decide_eq_true (by omega)
    clear c1 c2 M E D
    go_enter Tryz.func3, Tryz.ntmps3
    go_wp2_with fail
    refine (HAW.out _).mono ?_
    rintro e w9 ⟨rfl, hb⟩
    have HB := Lib.hid (HB.out.trans (hb.mono HB.out.size))
    clear hb
    go_wp2
    go_ret
    exact ⟨rfl, HB.out⟩
  have d2 : decide ((8 : Int) < (CL.length : Int)) = false := decide_eq_false (by omega)
  by_cases c3 : 8 < PL.length
  · have d3 : decide ((8 : Int) < (PL.length : Int)) = true := decide_eq_true (by omega)
    clear c1 c2 c3 M E D
    go_enter Tryz.func3, Tryz.ntmps3
    go_wp2_with fail
    refine (HAW.out _).mono ?_
    rintro e w9 ⟨rfl, hb⟩
    have HB := Lib.hid (HB.out.trans (hb.mono HB.out.size))
    clear hb
    go_wp2
    go_ret
    exact ⟨rfl, HB.out⟩
  have d3 : decide ((8 : Int) < (PL.length : Int)) = false := decide_eq_false (by omega)
  have hs2 : s.size ≤ 2048 := by omega
  have hC8 : CL.length ≤ 8 := by omega
  have hP8 : PL.length ≤ 8 := by omega
  clear c1 c2 c3 hs hpl hcl
  have HDE := Lib.hid (fun W => D.tree s W (by omega))
  have HBAD : Hid ((treeD s.data.toList).2 ≠ 0 → (treeD s.data.toList).1 = dt0) := fun h => treeD_bad h
  have HTO : Hid ((treeD s.data.toList).2 = 0 → Told (treeD s.data.toList).1 2044) := fun h => told_dec hs2 (Prod.ext rfl h)
  generalize treeD s.data.toList = TD at *
  obtain ⟨T0, e0⟩ := TD
  simp only at HDE HBAD HTO
  go_enter Tryz.func3, Tryz.ntmps3
  go_wp2_with fail
  refine (HDE.out _).mono ?_
  rintro e w2 ⟨v2, v3, A, capR, rfl, hd, hb⟩
  obtain ⟨P, Q, pm, qm, rfl, rfl, _⟩ := nd_shape hd.1
  have hbn : Below w2.heap.size w2 (w2.alloc (.cells (dtC T0.rt.nm (.slice P T0.rt.ps.length pm) (.slice Q T0.rt.ks.length qm) (.slice A T0.rs.length capR) T0.bo) 31)) := (Below.refl _ _).alloc (Nat.le_refl _) _
  have hN0 : NdAt (w2.alloc (.cells (dtC T0.rt.nm (.slice P T0.rt.ps.length pm) (.slice Q T0.rt.ks.length qm) (.slice A T0.rs.length capR) T0.bo) 31)) (fun k => k ≠ w2.heap.size) T0.rt (.slice P T0.rt.ps.length pm) (.slice Q T0.rt.ks.length qm) := (nd_below hd.1 hbn).mono fun k hk e => by
    have h : k < w2.heap.size := hk
    omega
  have HSPN : Hid (T0.rs = [] ∨ ∃ b off, A = some ⟨b, off, none⟩ ∧ ¬ b = w2.heap.size) := hd.2.low17 (Nat.le_refl _)
  have HS0 := Lib.hid (hd.2.below hbn)
  have HN0 := Lib.hid hN0
  have HT0 := Lib.hid (Arr.new w2 31 (dtC T0.rt.nm (.slice P T0.rt.ps.length pm) (.slice Q T0.rt.ks.length qm) (.slice A T0.rs.length capR) T0.bo))
  have HGT : Hid (w.heap.size ≤ w2.heap.size) := hb.size
  have HB := Lib.hid (HB.out.trans ((hb.trans (hbn.mono hb.size)).mono HB.out.size))
  clear hd hb hbn hN0 HDE
  go_upto_region 4 with fail
  change Code.wp _ _ _ _ (w2.alloc (.cells (dtC T0.rt.nm (.slice P T0.rt.ps.length pm) (.slice Q T0.rt.ks.length qm) (.slice A T0.rs.length capR) T0.bo) 31))
  generalize w2.alloc (.cells (dtC T0.rt.nm (.slice P T0.rt.ps.length pm) (.slice Q T0.rt.ks.length qm) (.slice A T0.rs.length capR) T0.bo) 31) = W3 at *
  generalize w2.heap.size = gT at *
  by_cases h0 : e0 = 0
  rotate_left
  · have d0 : (((e0 : Nat) : Int) != 0) = true := by simp; omega
    obtain rfl : T0 = dt0 := HBAD.out h0
    have HSM := Lib.hid (rSameT_any dt0 _ _ (.slice none 0 0) (.slice none 0 0) A none capR 0 W3 (by decide) ⟨((nd_and HN0.out).mono fun k hk => hk.2), HS0.out⟩ (dtAt_zero _))
    obtain ⟨q0, q1, q2, q3, q4⟩ := dt_cells HT0.out
    clear h0 HBAD HTO HN0 HS0 HSPN M E D
    go_wp2_with fail
    refine HSM.out.mono ?_
    rintro e w3 ⟨rfl, hb⟩
    have HB := Lib.hid (HB.out.trans (hb.mono HB.out.size))
    clear hb HSM q0 q1 q2 q3 q4 HT0
    go_wp2_with fail
    refine (HAW.out _).mono ?_
    rintro e w9 ⟨rfl, hb⟩
    have HB := Lib.hid (HB.out.trans (hb.mono HB.out.size))
    clear hb
    go_wp2
    go_ret
    exact ⟨rfl, HB.out⟩
  · subst h0
    have HTO0 : Hid (Told T0 (2044 + 312 * 0)) := HTO.out rfl
    clear HTO HBAD
    go_wp2
    go_loopw [9] (fun iv wr => ∃ (i : Nat) (T : DT) (P Q A : Option Addr) (pm qm capR : Nat), i ≤ 8 ∧ iv = .int .i64 i ∧ Arr wr gT 31 (dtC T.rt.nm (.slice P T.rt.ps.length pm) (.slice Q T.rt.ks.length qm) (.slice A T.rs.length capR) T.bo) ∧ NdAt wr (fun k => k ≠ gT) T.rt (.slice P T.rt.ps.length pm) (.slice Q T.rt.ks.length qm) ∧ RdSp wr A T.rs ∧ Hid (T.rs = [] ∨ ∃ b off, A = some ⟨b, off, none⟩ ∧ ¬ b = gT) ∧ Hid (Told T (2044 + 312 * i)) ∧ Below w.heap.size w wr) (fun iv _ => 8 - (intOf iv).toNat)
    case atStart => exact ⟨0, T0, _, _, _, _, _, _, Nat.zero_le _, rfl, HT0.out, HN0.out, HS0.out, HSPN.out, HTO0.out, HB.out⟩
    case round =>
      clear HT0 HN0 HS0 HSPN HTO0 HB
      obtain ⟨i, T, P, Q, A, pm, qm, capR, hi, rfl, hA, hN, hSp, HSN, HTD, hb⟩ := hrel
      have HA := Lib.hid hA
      have HN := Lib.hid hN
      have HSP := Lib.hid hSp
      have HB := Lib.hid hb
      have HTL := Lib.hid hA.lt
      obtain ⟨c0, c1, c2, -, -⟩ := dt_cells hA
      clear hA hN hSp hb
      by_cases hlt : i < CL.length ∧ i < PL.length
      rotate_left
      · have hx : (i : Int) < (CL.length : Int) ∧ (PL.length : Int) ≤ (i : Int) ∨ (CL.length : Int) ≤ (i : Int) := by omega
        clear HTD HSN HN HSP HA M E D c0 c1 c2 hlt
        rcases hx with ⟨x1, x2⟩ | x1
        · skip
          go_wp2_with fail
          refine (HAW.out _).mono ?_
          rintro e w9 ⟨rfl, hb⟩
          have HB := Lib.hid (HB.out.trans (hb.mono HB.out.size))
          clear hb
          go_wp2
          go_ret
          exact ⟨rfl, HB.out⟩
        · skip
          go_wp2_with fail
          refine (HAW.out _).mono ?_
          rintro e w9 ⟨rfl, hb⟩
          have HB := Lib.hid (HB.out.trans (hb.mono HB.out.size))
          clear hb
          go_wp2
          go_ret
          exact ⟨rfl, HB.out⟩
      · obtain ⟨hl1, hl2⟩ := hlt
        have hi1 : (i : Int) < (CL.length : Int) := by omega
        have hi2 : (i : Int) < (PL.length : Int) := by omega
        have hi0 : (0 : Int) ≤ i := by omega
        have hi8 : (i : Int) ≤ 8 := by omega
        obtain ⟨pb, po, x, rfl, p0, HX⟩ := (HP.out.below HB.out).at_ hl2
        obtain ⟨cb, co, c, rfl, ⟨k0, k1, k2⟩, HCX⟩ := (HC.out.below HB.out).at_ hl1
        have hxz := HPZ.out i hl2
        rw [HX.out] at hxz
        unfold maxLen at hxz
        obtain ⟨kd, cn, cv⟩ := c
        simp only at k0 k1 k2
        clear HX HCX
        by_cases z1 : 200 < x.size
        · have y1 : decide ((200 : Int) < (x.size : Int)) = true := decide_eq_true (by omega)
          clear z1 HTD HSN HN HSP HA M E D c0 c1 c2
          go_wp2_with fail
          refine (HAW.out _).mono ?_
          rintro e w9 ⟨rfl, hb⟩
          have HB := Lib.hid (HB.out.trans (hb.mono HB.out.size))
          clear hb
          go_wp2
          go_ret
          exact ⟨rfl, HB.out⟩
        have y1 : decide ((200 : Int) < (x.size : Int)) = false := decide_eq_false (by omega)
        by_cases z2 : 100 < cn.size
        · have y2 : decide ((100 : Int) < (cn.size : Int)) = true := decide_eq_true (by omega)
          clear z1 z2 HTD HSN HN HSP HA M E D c0 c1 c2
          go_wp2_with fail
          refine (HAW.out _).mono ?_
          rintro e w9 ⟨rfl, hb⟩
          have HB := Lib.hid (HB.out.trans (hb.mono HB.out.size))
          clear hb
          go_wp2
          go_ret
          exact ⟨rfl, HB.out⟩
        have y2 : decide ((100 : Int) < (cn.size : Int)) = false := decide_eq_false (by omega)
        by_cases z3 : 300 < cv.size
        · have y3 : decide ((300 : Int) < (cv.size : Int)) = true := decide_eq_true (by omega)
          clear z1 z2 z3 HTD HSN HN HSP HA M E D c0 c1 c2
          go_wp2_with fail
          refine (HAW.out _).mono ?_
          rintro e w9 ⟨rfl, hb⟩
          have HB := Lib.hid (HB.out.trans (hb.mono HB.out.size))
          clear hb
          go_wp2
          go_ret
          exact ⟨rfl, HB.out⟩
        have y3 : decide ((300 : Int) < (cv.size : Int)) = false := decide_eq_false (by omega)
        have x200 : x.size ≤ 200 := by omega
        have n100 : cn.size ≤ 100 := by omega
        have v300 : cv.size ≤ 300 := by omega
        obtain ⟨Y, hY⟩ : ∃ Y, Y = editR T.rt x.data.toList ⟨kd, cn, cv⟩ := ⟨_, rfl⟩
        have HED : Hid (∀ W', Below wr.heap.size wr W' → Calls Tryz.prog 7 #[.agg #[.string T.rt.nm, .slice P T.rt.ps.length pm, .slice Q T.rt.ks.length qm], .string x, .agg #[.int .i64 kd, .string cn, .string cv]] W' fun e w' => ∃ u2 u3, e = .returned (.tuple #[.agg #[.string Y.1.nm, u2, u3], .int .i64 (Y.2 : Nat)]) ∧ NdAt w' (OrNew (fun k => (fun k => k ≠ gT) k ∧ k < wr.heap.size) W'.heap.size) Y.1 u2 u3 ∧ Below W'.heap.size W' w') := fun W' h => by
          have := edited_any M _ T.rt _ _ x ⟨kd, cn, cv⟩ W' (sz_told HTD.out) (by omega) (by show cn.size ≤ _; omega) (by show cv.size ≤ _; omega) (nd_below (nd_and HN.out) h)
          rw [← hY] at this
          exact this
        have HYB : Hid (Y.2 ≠ 0 → Y.1 = nd0) := fun h => by rw [hY] at h ⊢; exact edit_bad h
        have HYS : Hid (Y.2 = 0 → Told ⟨Y.1, T.rs, T.bo⟩ (2044 + 312 * (i + 1))) := fun h => by
          have h1 : editR T.rt x.data.toList ⟨kd, cn, cv⟩ = (Y.1, 0) := by rw [← hY]; exact Prod.ext rfl h
          have := told_next HTD.out (edit_stays v300 h1)
          rwa [show 2044 + 312 * i + 312 = 2044 + 312 * (i + 1) by omega] at this
        clear hY z1 z2 z3 hxz
        have HKP : Hid (∀ W', Below wr.heap.size wr W' → (W'.cell? ⟨gT, 0, none⟩ = some (.string T.rt.nm) ∧ W'.cell? ⟨gT, 1, none⟩ = some (.slice P T.rt.ps.length pm) ∧ W'.cell? ⟨gT, 2, none⟩ = some (.slice Q T.rt.ks.length qm) ∧ W'.cell? ⟨pb, po + i, none⟩ = some (.string x) ∧ W'.cell? ⟨cb, co + i * 3, none⟩ = some (.int .i64 kd) ∧ W'.cell? ⟨cb, co + i * 3 + 1, none⟩ = some (.string cn) ∧ W'.cell? ⟨cb, co + i * 3 + 2, none⟩ = some (.string cv))) := fun W' h =>
          have M := Moved.of_below h (fun _ => False)
          ⟨cell_kept M id c0, cell_kept M id c1, cell_kept M id c2, cell_kept M id p0, cell_kept M id k0, cell_kept M id k1, cell_kept M id k2⟩
        have hbd : Below wr.heap.size wr wr.drew := (Below.refl _ _).drew
        have hbe : Below wr.heap.size wr (wr.alloc (.cells #[.string ⟨#[]⟩, .slice none 0 0, .slice none 0 0] 28)).drew := ((Below.refl _ _).alloc (Nat.le_refl _) _).drew
        have HCE : Hid (Arr (wr.alloc (.cells #[.string ⟨#[]⟩, .slice none 0 0, .slice none 0 0] 28)).drew wr.heap.size 28 #[.string ⟨#[]⟩, .slice none 0 0, .slice none 0 0]) := Arr.new wr _ _
        have HAQ : Hid (∀ (w7 : World) (ua : Option Addr) (uc : Nat) (ub : Option Addr) (ud : Nat), NdAt w7 (OrNew (fun k => (fun k => k ≠ gT) k ∧ k < wr.heap.size) wr.drew.heap.size) Y.1 (.slice ua Y.1.ps.length uc) (.slice ub Y.1.ks.length ud) → Below wr.drew.heap.size wr.drew w7 → Below wr.heap.size wr w7 ∧ Below wr.heap.size wr (w7.alloc (.cells #[.string ⟨#[]⟩, .slice none 0 0, .slice none 0 0] 28)) ∧ Below wr.heap.size wr (w7.alloc (.cells #[.string Y.1.nm, .slice ua Y.1.ps.length uc, .slice ub Y.1.ks.length ud] 28)) ∧
            Arr (w7.alloc (.cells #[.string Y.1.nm, .slice ua Y.1.ps.length uc, .slice ub Y.1.ks.length ud] 28)) w7.heap.size 28 #[.string Y.1.nm, .slice ua Y.1.ps.length uc, .slice ub Y.1.ks.length ud] ∧ NdAt (w7.alloc (.cells #[.string Y.1.nm, .slice ua Y.1.ps.length uc, .slice ub Y.1.ks.length ud] 28)) (fun k => k ≠ gT) Y.1 (.slice ua Y.1.ps.length uc) (.slice ub Y.1.ks.length ud) ∧ Below wr.heap.size wr (w7.alloc (.cells #[.string Y.1.nm, .slice ua Y.1.ps.length uc, .slice ub Y.1.ks.length ud] 28)) ∧ w7.heap.size ≠ gT) := fun w7 ua uc ub ud hk hb => by
          have h0 : Below wr.heap.size wr w7 := hbd.trans hb
          have ht := HTL.out
          have h9 := h0.size
          obtain ⟨q1, q2, q3, q4⟩ := lay_after (G := (OrNew (fun k => (fun k => k ≠ gT) k ∧ k < wr.heap.size) wr.drew.heap.size)) (y := Y.1) (ua := ua) (ub := ub) (uc := uc) (ud := ud) h0 (Nat.le_refl _)
          exact ⟨h0, q1, q2, q3, (q4 hk).mono fun k hk => hk.elim (fun h => h.1) (fun h e => by have h : wr.heap.size ≤ k := h; omega), q2, by omega⟩
        have HBQ : Hid (∀ (w7 : World) (ua : Option Addr) (uc : Nat) (ub : Option Addr) (ud : Nat), NdAt w7 (OrNew (fun k => (fun k => k ≠ gT) k ∧ k < wr.heap.size) ((wr.alloc (.cells #[.string ⟨#[]⟩, .slice none 0 0, .slice none 0 0] 28)).drew).heap.size) Y.1 (.slice ua Y.1.ps.length uc) (.slice ub Y.1.ks.length ud) → Below ((wr.alloc (.cells #[.string ⟨#[]⟩, .slice none 0 0, .slice none 0 0] 28)).drew).heap.size (wr.alloc (.cells #[.string ⟨#[]⟩, .slice none 0 0, .slice none 0 0] 28)).drew w7 → Below wr.heap.size wr w7 ∧ w7.cell? ⟨wr.heap.size, 0, none⟩ = some (.string ⟨#[]⟩) ∧ w7.cell? ⟨wr.heap.size, 1, none⟩ = some (.slice none 0 0) ∧ w7.cell? ⟨wr.heap.size, 2, none⟩ = some (.slice none 0 0) ∧ w7.frozen? ⟨wr.heap.size, 0, none⟩ = false ∧ w7.frozen? ⟨wr.heap.size, 1, none⟩ = false ∧ w7.frozen? ⟨wr.heap.size, 2, none⟩ = false ∧ Below wr.heap.size wr (((w7.setCell ⟨wr.heap.size, 0, none⟩ (.string Y.1.nm)).setCell ⟨wr.heap.size, 1, none⟩ (.slice ua Y.1.ps.length uc)).setCell ⟨wr.heap.size, 2, none⟩ (.slice ub Y.1.ks.length ud)) ∧
            Arr (((w7.setCell ⟨wr.heap.size, 0, none⟩ (.string Y.1.nm)).setCell ⟨wr.heap.size, 1, none⟩ (.slice ua Y.1.ps.length uc)).setCell ⟨wr.heap.size, 2, none⟩ (.slice ub Y.1.ks.length ud)) wr.heap.size 28 #[.string Y.1.nm, .slice ua Y.1.ps.length uc, .slice ub Y.1.ks.length ud] ∧ NdAt (((w7.setCell ⟨wr.heap.size, 0, none⟩ (.string Y.1.nm)).setCell ⟨wr.heap.size, 1, none⟩ (.slice ua Y.1.ps.length uc)).setCell ⟨wr.heap.size, 2, none⟩ (.slice ub Y.1.ks.length ud)) (fun k => k ≠ gT) Y.1 (.slice ua Y.1.ps.length uc) (.slice ub Y.1.ks.length ud) ∧ Below wr.heap.size wr (((w7.setCell ⟨wr.heap.size, 0, none⟩ (.string Y.1.nm)).setCell ⟨wr.heap.size, 1, none⟩ (.slice ua Y.1.ps.length uc)).setCell ⟨wr.heap.size, 2, none⟩ (.slice ub Y.1.ks.length ud)) ∧ wr.heap.size ≠ gT) := fun w7 ua uc ub ud hk hb => by
          have h0 : Below wr.heap.size wr w7 := hbe.trans (hb.mono hbe.size)
          have hz : ((wr.alloc (.cells #[.string ⟨#[]⟩, .slice none 0 0, .slice none 0 0] 28)).drew).heap.size = wr.heap.size + 1 := sz_alloc wr _
          have ht := HTL.out
          obtain ⟨q1, q2, q3, q4, q5, q6, q7, q8, q9⟩ := lay_before (G := (OrNew (fun k => (fun k => k ≠ gT) k ∧ k < wr.heap.size) ((wr.alloc (.cells #[.string ⟨#[]⟩, .slice none 0 0, .slice none 0 0] 28)).drew).heap.size)) (y := Y.1) (ua := ua) (ub := ub) (uc := uc) (ud := ud) h0 (Nat.le_refl _) (HCE.out.below hb HCE.out.lt)
          exact ⟨h0, q1, q2, q3, q4, q5, q6, q7, q8, (q9 hk (fun k hk => by rcases hk with hk | hk <;> omega)).mono fun k hk => hk.elim (fun h => h.1) (fun h e => by omega), q7, by omega⟩
        go_upto_region 11 with fail
        go_cut [10, 11] (fun s10 s11 wx => ∃ (g10 : Nat) (ua : Option Addr) (uc : Nat) (ub : Option Addr) (ud : Nat), s10 = .pointer (some ⟨g10, 0, none⟩) ∧ s11 = .int .i64 (Y.2 : Nat) ∧ Arr wx g10 28 #[.string Y.1.nm, .slice ua Y.1.ps.length uc, .slice ub Y.1.ks.length ud] ∧ NdAt wx (fun k => k ≠ gT) Y.1 (.slice ua Y.1.ps.length uc) (.slice ub Y.1.ks.length ud) ∧ Below wr.heap.size wr wx ∧ g10 ≠ gT)
        case first => as_aux_lemma =>
          refine wp_region_held_drew (S := fun (W' : World) => (W'.cell? ⟨gT, 0, none⟩ = some (.string T.rt.nm) ∧ W'.cell? ⟨gT, 1, none⟩ = some (.slice P T.rt.ps.length pm) ∧ W'.cell? ⟨gT, 2, none⟩ = some (.slice Q T.rt.ks.length qm) ∧ W'.cell? ⟨pb, po + i, none⟩ = some (.string x) ∧ W'.cell? ⟨cb, co + i * 3, none⟩ = some (.int .i64 kd) ∧ W'.cell? ⟨cb, co + i * 3 + 1, none⟩ = some (.string cn) ∧ W'.cell? ⟨cb, co + i * 3 + 2, none⟩ = some (.string cv))) (by kernel_rfl) (by exact HKP.out _ hbd) (fun hHeld => ?_)
          refine takeH 0 83 rfl rfl (v := ?_) (by kernel_rfl) (by kernel_rfl) (by kernel_rfl) (fun _ _ _ h => h) (Or.inl ⟨by rfl, ?_⟩) hHeld ?_
          rotate_left 1
          · (intro w hSw; (try dsimp only at hSw); go_simp; try (with_reducible rfl))
          (try simp only [Act.put]); (try simp only [List.setIfInBounds_toArray]); (try simp only [List.set_cons_succ]); (try simp only [List.set_cons_zero])
          refine takeH 1 84 rfl rfl (v := ?_) (by kernel_rfl) (by kernel_rfl) (by kernel_rfl) (fun _ _ _ h => h) (Or.inl ⟨by rfl, ?_⟩) hHeld ?_
          rotate_left 1
          · (intro w hSw; (try dsimp only at hSw); go_simp; try (with_reducible rfl))
          (try simp only [Act.put]); (try simp only [List.setIfInBounds_toArray]); (try simp only [List.set_cons_succ]); (try simp only [List.set_cons_zero])
          refine takeH 2 85 rfl rfl (v := ?_) (by kernel_rfl) (by kernel_rfl) (by kernel_rfl) (fun _ _ _ h => h) (Or.inl ⟨by rfl, ?_⟩) hHeld ?_
          rotate_left 1
          · (intro w hSw; (try dsimp only at hSw); go_simp; try (with_reducible rfl))
          (try simp only [Act.put]); (try simp only [List.setIfInBounds_toArray]); (try simp only [List.set_cons_succ]); (try simp only [List.set_cons_zero])
          refine takeH 3 86 rfl rfl (v := ?_) (by kernel_rfl) (by kernel_rfl) (by kernel_rfl) (fun _ _ _ h => h) (Or.inl ⟨by rfl, ?_⟩) hHeld ?_
          rotate_left 1
          · (intro w hSw; (try dsimp only at hSw); go_simp; try (with_reducible rfl))
          (try simp only [Act.put]); (try simp only [List.setIfInBounds_toArray]); (try simp only [List.set_cons_succ]); (try simp only [List.set_cons_zero])
          refine takeH 4 87 rfl rfl (v := ?_) (by kernel_rfl) (by kernel_rfl) (by kernel_rfl) (fun _ _ _ h => h) (Or.inl ⟨by rfl, ?_⟩) hHeld ?_
          rotate_left 1
          · (intro w hSw; (try dsimp only at hSw); go_simp; try (with_reducible rfl))
          (try simp only [Act.put]); (try simp only [List.setIfInBounds_toArray]); (try simp only [List.set_cons_succ]); (try simp only [List.set_cons_zero])
          refine takeH 5 88 rfl rfl (v := ?_) (by kernel_rfl) (by kernel_rfl) (by kernel_rfl) (fun _ _ _ h => h) (Or.inl ⟨by rfl, ?_⟩) hHeld ?_
          rotate_left 1
          · (intro w hSw; (try dsimp only at hSw); go_simp; try (with_reducible rfl))
          (try simp only [Act.put]); (try simp only [List.setIfInBounds_toArray]); (try simp only [List.set_cons_succ]); (try simp only [List.set_cons_zero])
          refine takeH 6 89 rfl rfl (v := ?_) (by kernel_rfl) (by kernel_rfl) (by kernel_rfl) (fun _ _ _ h => h) (Or.inl ⟨by rfl, ?_⟩) hHeld ?_
          rotate_left 1
          · (intro w hSw; (try dsimp only at hSw); go_simp; try (with_reducible rfl))
          (try simp only [Act.put]); (try simp only [List.setIfInBounds_toArray]); (try simp only [List.set_cons_succ]); (try simp only [List.set_cons_zero])
          refine takeH 7 90 rfl rfl (v := ?_) (by kernel_rfl) (by kernel_rfl) (by kernel_rfl) (fun _ _ _ h => h) (Or.inl ⟨by rfl, ?_⟩) hHeld ?_
          rotate_left 1
          · (intro w hSw; (try dsimp only at hSw); go_simp; try (with_reducible rfl))
          (try simp only [Act.put]); (try simp only [List.setIfInBounds_toArray]); (try simp only [List.set_cons_succ]); (try simp only [List.set_cons_zero])
          refine takeH 8 91 rfl rfl (v := ?_) (by kernel_rfl) (by kernel_rfl) (by kernel_rfl) (fun _ _ _ h => h) (Or.inl ⟨by rfl, ?_⟩) hHeld ?_
          rotate_left 1
          · (intro w hSw; (try dsimp only at hSw); go_simp; try (with_reducible rfl))
          (try simp only [Act.put]); (try simp only [List.setIfInBounds_toArray]); (try simp only [List.set_cons_succ]); (try simp only [List.set_cons_zero])
          refine takeH 9 92 rfl rfl (v := ?_) (by kernel_rfl) (by kernel_rfl) (by kernel_rfl) (fun _ _ _ h => h) (Or.inl ⟨by rfl, ?_⟩) hHeld ?_
          rotate_left 1
          · (intro w hSw; (try dsimp only at hSw); go_simp; try (with_reducible rfl))
          (try simp only [Act.put]); (try simp only [List.setIfInBounds_toArray]); (try simp only [List.set_cons_succ]); (try simp only [List.set_cons_zero])
          refine wpAnyH_ready (rs := [10, 14]) (by kernel_rfl) (by simp) (AllReadyH.cons rfl (fun K hK => ?_) (AllReadyH.cons rfl (fun K hK => ?_) AllReadyH.nil))
          · go_simp
            refine (HED.out _ hbd).mono ?_
            rintro e w7 ⟨u2, u3, rfl, hk7, s1⟩
            obtain ⟨ua, ub, uc, ud, rfl, rfl, _⟩ := nd_shape hk7
            obtain ⟨z1, z2, z3, z4⟩ := HAQ.out w7 ua uc ub ud hk7 s1
            (try dsimp only)
            refine hK.out _ _ (by exact HKP.out _ z1) (fun hHeld => ?_)
            clear hK K
            (try simp only [Act.put]); (try simp only [List.setIfInBounds_toArray]); (try simp only [List.set_cons_succ]); (try simp only [List.set_cons_zero])
            refine takeH 11 82 rfl rfl (v := ?_) (by kernel_rfl) (by kernel_rfl) (by kernel_rfl) (fun _ _ _ h => h) (Or.inl ⟨by rfl, ?_⟩) hHeld ?_
            rotate_left 1
            · (intro w hSw; (try dsimp only at hSw); go_simp; try (with_reducible rfl))
            (try simp only [Act.put]); (try simp only [List.setIfInBounds_toArray]); (try simp only [List.set_cons_succ]); (try simp only [List.set_cons_zero])
            refine takeH 12 94 rfl rfl (v := ?_) (by kernel_rfl) (by kernel_rfl) (by kernel_rfl) (fun _ _ _ h => h) (Or.inl ⟨by rfl, ?_⟩) hHeld ?_
            rotate_left 1
            · (intro w hSw; (try dsimp only at hSw); go_simp; try (with_reducible rfl))
            (try simp only [Act.put]); (try simp only [List.setIfInBounds_toArray]); (try simp only [List.set_cons_succ]); (try simp only [List.set_cons_zero])
            refine takeH 13 95 rfl rfl (v := ?_) (by kernel_rfl) (by kernel_rfl) (by kernel_rfl) (fun _ _ _ h => h) (Or.inl ⟨by rfl, ?_⟩) hHeld ?_
            rotate_left 1
            · (intro w hSw; (try dsimp only at hSw); go_simp; try (with_reducible rfl))
            (try simp only [Act.put]); (try simp only [List.setIfInBounds_toArray]); (try simp only [List.set_cons_succ]); (try simp only [List.set_cons_zero])
            refine wpAnyH_ready (rs := [14]) (by kernel_rfl) (by simp) (AllReadyH.cons rfl (fun K hK => ?_) AllReadyH.nil)
            go_simp
            refine hK.out _ _ (by exact HKP.out _ z2) (fun hHeld => ?_)
            clear hK K
            (try simp only [Act.put]); (try simp only [List.setIfInBounds_toArray]); (try simp only [List.set_cons_succ]); (try simp only [List.set_cons_zero])
            refine wpAnyH_ready (rs := [15]) (by kernel_rfl) (by simp) (AllReadyH.cons rfl (fun K hK => ?_) AllReadyH.nil)
            go_simp
            refine hK.out _ _ (by exact HKP.out _ z3) (fun hHeld => ?_)
            clear hK K
            (try simp only [Act.put]); (try simp only [List.setIfInBounds_toArray]); (try simp only [List.set_cons_succ]); (try simp only [List.set_cons_zero])
            refine wpAnyH_ready (rs := [16]) (by kernel_rfl) (by simp) (AllReadyH.cons rfl (fun K hK => ?_) AllReadyH.nil)
            go_simp
            refine hK.out _ _ (by exact HKP.out _ z3) (fun hHeld => ?_)
            clear hK K
            (try simp only [Act.put]); (try simp only [List.setIfInBounds_toArray]); (try simp only [List.set_cons_succ]); (try simp only [List.set_cons_zero])
            refine wpAnyH_done (by kernel_rfl) ?_ _
            have HQ := Lib.hid z4
            go_wp2_with fail
            go_meet
            exact ⟨_, _, _, _, _, rfl, rfl, HQ.out⟩
          · go_simp
            refine hK.out _ _ (by exact HKP.out _ hbe) (fun hHeld => ?_)
            clear hK K
            (try simp only [Act.put]); (try simp only [List.setIfInBounds_toArray]); (try simp only [List.set_cons_succ]); (try simp only [List.set_cons_zero])
            refine wpAnyH_ready (rs := [10]) (by kernel_rfl) (by simp) (AllReadyH.cons rfl (fun K hK => ?_) AllReadyH.nil)
            go_simp
            refine (HED.out _ hbe).mono ?_
            rintro e w7 ⟨u2, u3, rfl, hk7, s1⟩
            obtain ⟨ua, ub, uc, ud, rfl, rfl, _⟩ := nd_shape hk7
            obtain ⟨z1, e0, e1, e2, f0, f1, f2, z3, z4⟩ := HBQ.out w7 ua uc ub ud hk7 s1
            (try dsimp only)
            refine hK.out _ _ (by exact HKP.out _ z1) (fun hHeld => ?_)
            clear hK K
            (try simp only [Act.put]); (try simp only [List.setIfInBounds_toArray]); (try simp only [List.set_cons_succ]); (try simp only [List.set_cons_zero])
            refine takeH 11 82 rfl rfl (v := ?_) (by kernel_rfl) (by kernel_rfl) (by kernel_rfl) (fun _ _ _ h => h) (Or.inl ⟨by rfl, ?_⟩) hHeld ?_
            rotate_left 1
            · (intro w hSw; (try dsimp only at hSw); go_simp; try (with_reducible rfl))
            (try simp only [Act.put]); (try simp only [List.setIfInBounds_toArray]); (try simp only [List.set_cons_succ]); (try simp only [List.set_cons_zero])
            refine takeH 12 94 rfl rfl (v := ?_) (by kernel_rfl) (by kernel_rfl) (by kernel_rfl) (fun _ _ _ h => h) (Or.inl ⟨by rfl, ?_⟩) hHeld ?_
            rotate_left 1
            · (intro w hSw; (try dsimp only at hSw); go_simp; try (with_reducible rfl))
            (try simp only [Act.put]); (try simp only [List.setIfInBounds_toArray]); (try simp only [List.set_cons_succ]); (try simp only [List.set_cons_zero])
            refine takeH 13 95 rfl rfl (v := ?_) (by kernel_rfl) (by kernel_rfl) (by kernel_rfl) (fun _ _ _ h => h) (Or.inl ⟨by rfl, ?_⟩) hHeld ?_
            rotate_left 1
            · (intro w hSw; (try dsimp only at hSw); go_simp; try (with_reducible rfl))
            (try simp only [Act.put]); (try simp only [List.setIfInBounds_toArray]); (try simp only [List.set_cons_succ]); (try simp only [List.set_cons_zero])
            refine wpAnyH_ready (rs := [15]) (by kernel_rfl) (by simp) (AllReadyH.cons rfl (fun K hK => ?_) AllReadyH.nil)
            go_simp
            refine hK.out _ _ (by exact HKP.out _ z3) (fun hHeld => ?_)
            clear hK K
            (try simp only [Act.put]); (try simp only [List.setIfInBounds_toArray]); (try simp only [List.set_cons_succ]); (try simp only [List.set_cons_zero])
            refine wpAnyH_ready (rs := [16]) (by kernel_rfl) (by simp) (AllReadyH.cons rfl (fun K hK => ?_) AllReadyH.nil)
            go_simp
            refine hK.out _ _ (by exact HKP.out _ z3) (fun hHeld => ?_)
            clear hK K
            (try simp only [Act.put]); (try simp only [List.setIfInBounds_toArray]); (try simp only [List.set_cons_succ]); (try simp only [List.set_cons_zero])
            refine wpAnyH_done (by kernel_rfl) ?_ _
            have HQ := Lib.hid z4
            go_wp2_with fail
            go_meet
            exact ⟨_, _, _, _, _, rfl, rfl, HQ.out⟩
        case rest => as_aux_lemma =>
          obtain ⟨g10, ua, uc, ub, ud, rfl, rfl, R1, R2, R4, R5⟩ := hcut
          have RA := Lib.hid R1
          have RN := Lib.hid R2
          have HA := Lib.hid (HA.out.below R4 HA.out.lt)
          have HN := Lib.hid (nd_below HN.out R4)
          have HSP := Lib.hid (HSP.out.below R4)
          have HB := Lib.hid (HB.out.trans (R4.mono HB.out.size))
          have HG5 := Lib.hid R5
          obtain ⟨r0, r1, r2⟩ : wc.cell? ⟨g10, 0, none⟩ = some (.string Y.1.nm) ∧ wc.cell? ⟨g10, 1, none⟩ = some (.slice ua Y.1.ps.length uc) ∧ wc.cell? ⟨g10, 2, none⟩ = some (.slice ub Y.1.ks.length ud) := ⟨R1.cell 0, R1.cell 1, R1.cell 2⟩
          clear HAQ HBQ HCE hbd hbe HED HKP R1 R2 R4 R5 c0 c1 c2 p0 k0 k1 k2
          by_cases h0 : Y.2 = 0
          rotate_left
          · have d0 : (((Y.2 : Nat) : Int) != 0) = true := by simp; omega
            have e := HYB.out h0
            rw [e] at RN r0 r1 r2
            have HSM : Hid (Calls Tryz.prog 8 #[.agg #[.string nd0.nm, .slice ua nd0.ps.length uc, .slice ub nd0.ks.length ud], .agg #[.string ⟨#[]⟩, .slice none 0 0, .slice none 0 0]] wc fun e w' => e = .returned (.bool true) ∧ Below wc.heap.size wc w') := by
              have := rSame_any _ (fun _ => True) nd0 nd0 _ _ _ _ wc RN.out (nd0_at _ _)
              rw [sameR_refl] at this
              exact this
            clear h0 HYB HYS RA RN M E D e
            go_wp2_with fail
            refine HSM.out.mono ?_
            rintro e v6 ⟨rfl, hb⟩
            have HA := Lib.hid (HA.out.below hb HA.out.lt)
            have HN := Lib.hid (nd_below HN.out hb)
            have HSP := Lib.hid (HSP.out.below hb)
            have HB := Lib.hid (HB.out.trans (hb.mono HB.out.size))
            clear hb HSM r0 r1 r2
            go_wp2
            go_roundw
            case rel => (repeat apply Exists.intro); exact ⟨⟨i + 1, T, P, Q, A, pm, qm, capR, by omega, by go_num, HA.out, HN.out, HSP.out, HSN.out, told_mono HTD.out (by omega), HB.out⟩, rfl⟩
            case measure => simp [intOf]; omega
          · have d0 : (((Y.2 : Nat) : Int) != 0) = false := by rw [h0]; rfl
            have HT2 := Lib.hid (HYS.out h0)
            clear h0 HYB HYS HTD HN
            obtain ⟨f0, f1, f2⟩ : wc.frozen? ⟨gT, 0, none⟩ = false ∧ wc.frozen? ⟨gT, 1, none⟩ = false ∧ wc.frozen? ⟨gT, 2, none⟩ = false := ⟨HA.out.frozen 0, HA.out.frozen 1, HA.out.frozen 2⟩
            obtain ⟨c0, c1, c2, -, -⟩ := dt_cells HA.out
            have M5 : Moved wc (((wc.setCell ⟨gT, 0, none⟩ (.string Y.1.nm)).setCell ⟨gT, 1, none⟩ (.slice ua Y.1.ps.length uc)).setCell ⟨gT, 2, none⟩ (.slice ub Y.1.ks.length ud)) (fun k => k = gT) (fun k => k = gT) := ((Moved.grown (gr_cell wc gT 0 _) (fun k hk => by injection hk with hk; exact hk.symm) (fun k hk => .inl hk)).trans (Moved.grown (gr_cell _ gT 1 _) (fun k hk => by injection hk with hk; exact hk.symm) (fun k hk => .inl hk))).trans (Moved.grown (gr_cell _ gT 2 _) (fun k hk => by injection hk with hk; exact hk.symm) (fun k hk => .inl hk))
            have HA2 : Hid (Arr (((wc.setCell ⟨gT, 0, none⟩ (.string Y.1.nm)).setCell ⟨gT, 1, none⟩ (.slice ua Y.1.ps.length uc)).setCell ⟨gT, 2, none⟩ (.slice ub Y.1.ks.length ud)) gT 31 (dtC Y.1.nm (.slice ua Y.1.ps.length uc) (.slice ub Y.1.ks.length ud) (.slice A T.rs.length capR) T.bo)) := ((HA.out.put 0 _).put 1 _).put 2 _
            have HN2 := Lib.hid (RN.out.kept M5 (fun k hk e => hk e))
            have HSP2 := Lib.hid (HSP.out.kept17 HSN.out M5)
            have RA2 := Lib.hid (M5.arr RA.out (fun e => HG5.out e))
            have HB5 : Hid (Below w.heap.size w (((wc.setCell ⟨gT, 0, none⟩ (.string Y.1.nm)).setCell ⟨gT, 1, none⟩ (.slice ua Y.1.ps.length uc)).setCell ⟨gT, 2, none⟩ (.slice ub Y.1.ks.length ud))) := (((HB.out.setCell (p := ⟨gT, 0, none⟩) HGT.out _).setCell (p := ⟨gT, 1, none⟩) HGT.out _).setCell (p := ⟨gT, 2, none⟩) HGT.out _)
            have HB := HB5
            clear M5 HA RN HSP RA HB5
            go_upto_region 16 with fail
            change Code.wp _ _ _ _ (((wc.setCell ⟨gT, 0, none⟩ (.string Y.1.nm)).setCell ⟨gT, 1, none⟩ (.slice ua Y.1.ps.length uc)).setCell ⟨gT, 2, none⟩ (.slice ub Y.1.ks.length ud))
            generalize ((wc.setCell ⟨gT, 0, none⟩ (.string Y.1.nm)).setCell ⟨gT, 1, none⟩ (.slice ua Y.1.ps.length uc)).setCell ⟨gT, 2, none⟩ (.slice ub Y.1.ks.length ud) = W5 at *
            clear c0 c1 c2 f0 f1 f2 r0 r1 r2
            have hi6 : 2044 + 312 * (i + 1) ≤ 6000 := by omega
            obtain ⟨b, hb1, hb2, hb3⟩ := told_enc HT2.out hi6
            obtain ⟨S, hS⟩ : ∃ S : ByteArray, S = ⟨b.toArray⟩ := ⟨_, rfl⟩
            have hSd : S.data.toList = b := by rw [hS]
            have hSz : S.size ≤ 16384 := by show S.data.toList.length ≤ _; rw [hSd]; exact hb2
            have HEN : Hid (Calls Tryz.prog 9 #[.agg (dtC Y.1.nm (.slice ua Y.1.ps.length uc) (.slice ub Y.1.ks.length ud) (.slice A T.rs.length capR) T.bo)] W5 fun e w' => e = .returned (.tuple #[.string S, .int .i64 0]) ∧ Below W5.heap.size W5 w') := by
              obtain ⟨o1, o2⟩ := told_enOk HT2.out hi6
              have := E ⟨Y.1, T.rs, T.bo⟩ _ _ A capR W5 o1 o2 ⟨(nd_and HN2.out).mono (fun k hk => hk.2), HSP2.out⟩
              rw [hb1, ← hS] at this
              exact this
            obtain ⟨S2, hS2⟩ : ∃ S2 : ByteArray, S2.data.toList = S.data.toList ++ [98, 101, 104, 105, 110, 100] := ⟨⟨(S.data.toList ++ [98, 101, 104, 105, 110, 100]).toArray⟩, by simp⟩
            have z2 : S2.size = S.size + 6 := by show S2.data.toList.length = _; rw [hS2, List.length_append]; rfl
            have a1 : ∀ W, (Op.stringOp .add S ⟨#[98, 101, 104, 105, 110, 100]⟩).run Tryz.prog W = .ok (.string S2) W := fun W => add_str (by rw [hS2]) (by show S.size + 6 ≤ _; omega) W
            have HDE : Hid (∀ W, Calls Tryz.prog 5 #[.string S2] W fun e w' => ∃ v2 v3 A cap, e = .returned (.tuple #[.agg (dtC Y.1.nm v2 v3 (.slice A T.rs.length cap) T.bo), .int .i64 0]) ∧ DtAt w' ⟨Y.1, T.rs, T.bo⟩ v2 v3 A ∧ Below W.heap.size W w') := fun W => by
              have := D.tree S2 W (by omega)
              rw [hS2, hSd, (hb3 _).2.2] at this
              exact this
            have HSZ : Hid (∀ W, Calls Tryz.prog 10 #[.string S] W fun e w' => e = .returned (.tuple #[.int .i64 (S.size : Int), .int .i64 0]) ∧ Below W.heap.size W w') := fun W => by
              have := D.size S W (by omega)
              obtain ⟨k1, k2, _⟩ := hb3 []
              rw [List.append_nil] at k1 k2
              rw [hSd, k2, show (readH b).2 = 0 by rw [k1]] at this
              have hz : S.size = b.length := by show S.data.toList.length = _; rw [hSd]
              rw [hz]; exact this
            have HFT := Lib.hid (fun W G u v (h : NdAt W G Y.1 u v) => rFits_any G Y.1 u v W (by have := (told_sz HT2.out hi6).1; simp only at this; omega) (by have := (told_sz HT2.out hi6).2.1; simp only at this; omega) h)
            have hfit : fitsR Y.1 = true := HT2.out.fit
            rw [hfit] at HFT
            have HSM := Lib.hid (fun W u v A' c u' v' A2 c2 (h : DtAt W ⟨Y.1, T.rs, T.bo⟩ u v A') (h' : DtAt W ⟨Y.1, T.rs, T.bo⟩ u' v' A2) => rSameT_any ⟨Y.1, T.rs, T.bo⟩ u v u' v' A' A2 c c2 W (by have := HT2.out.few; unfold maxLen; omega) h h')
            obtain ⟨c0, c1, c2, c3, c4⟩ := dt_cells HA2.out
            clear hb1 hb2 hb3 hS hSd hS2 z2 hfit hi6 M E D
            go_wp2_with fail
            refine HEN.out.mono ?_
            rintro e v6 ⟨rfl, hb⟩
            have HA2 := Lib.hid (HA2.out.below hb HA2.out.lt)
            have HN2 := Lib.hid (nd_below HN2.out hb)
            have HSP2 := Lib.hid (HSP2.out.below hb)
            have RA2 := Lib.hid (RA2.out.below hb RA2.out.lt)
            have HB := Lib.hid (HB.out.trans (hb.mono HB.out.size))
            clear hb HEN c0 c1 c2 c3 c4
            go_wp2_with fail
            refine (HDE.out _).mono ?_
            rintro e v7 ⟨u2, u3, AU, capU, rfl, hd, hb⟩
            obtain ⟨xa, xb, xc, xd, rfl, rfl, _⟩ := nd_shape hd.1
            have hbn : Below v7.heap.size v7 (v7.alloc (.cells (dtC Y.1.nm (.slice xa Y.1.ps.length xc) (.slice xb Y.1.ks.length xd) (.slice AU T.rs.length capU) T.bo) 31)) := (Below.refl _ _).alloc (Nat.le_refl _) _
            have hb := hb.trans (hbn.mono hb.size)
            have HA2 := Lib.hid (HA2.out.below hb HA2.out.lt)
            have HN2 := Lib.hid (nd_below HN2.out hb)
            have HSP2 := Lib.hid (HSP2.out.below hb)
            have RA2 := Lib.hid (RA2.out.below hb RA2.out.lt)
            have HB := Lib.hid (HB.out.trans (hb.mono HB.out.size))
            have HDU := Lib.hid (hd.below hbn)
            have HU := Lib.hid (Arr.new v7 31 (dtC Y.1.nm (.slice xa Y.1.ps.length xc) (.slice xb Y.1.ks.length xd) (.slice AU T.rs.length capU) T.bo))
            clear hb hbn hd HDE a1
            go_upto_region 18 with fail
            change Code.wp _ _ _ _ (v7.alloc (.cells (dtC Y.1.nm (.slice xa Y.1.ps.length xc) (.slice xb Y.1.ks.length xd) (.slice AU T.rs.length capU) T.bo) 31))
            generalize v7.alloc (.cells (dtC Y.1.nm (.slice xa Y.1.ps.length xc) (.slice xb Y.1.ks.length xd) (.slice AU T.rs.length capU) T.bo) 31) = W7 at *
            generalize v7.heap.size = gU at *
            go_wp2_with fail
            refine (HSZ.out _).mono ?_
            rintro e v8 ⟨rfl, hb⟩
            have HA2 := Lib.hid (HA2.out.below hb HA2.out.lt)
            have HN2 := Lib.hid (nd_below HN2.out hb)
            have HSP2 := Lib.hid (HSP2.out.below hb)
            have RA2 := Lib.hid (RA2.out.below hb RA2.out.lt)
            have HU := Lib.hid (HU.out.below hb HU.out.lt)
            have HDU := Lib.hid (HDU.out.below hb)
            have HB := Lib.hid (HB.out.trans (hb.mono HB.out.size))
            clear hb HSZ
            obtain ⟨r0, r1, r2⟩ : v8.cell? ⟨g10, 0, none⟩ = some (.string Y.1.nm) ∧ v8.cell? ⟨g10, 1, none⟩ = some (.slice ua Y.1.ps.length uc) ∧ v8.cell? ⟨g10, 2, none⟩ = some (.slice ub Y.1.ks.length ud) := ⟨RA2.out.cell 0, RA2.out.cell 1, RA2.out.cell 2⟩
            go_wp2_with fail
            refine (HFT.out _ _ _ _ HN2.out).mono ?_
            rintro e v9 ⟨rfl, hb⟩
            have HA2 := Lib.hid (HA2.out.below hb HA2.out.lt)
            have HN2 := Lib.hid (nd_below HN2.out hb)
            have HSP2 := Lib.hid (HSP2.out.below hb)
            have HU := Lib.hid (HU.out.below hb HU.out.lt)
            have HDU := Lib.hid (HDU.out.below hb)
            have HB := Lib.hid (HB.out.trans (hb.mono HB.out.size))
            clear hb HFT r0 r1 r2 RA2
            obtain ⟨c0, c1, c2, c3, c4⟩ := dt_cells HA2.out
            obtain ⟨u0, u1, u2, u3, u4⟩ := dt_cells HU.out
            have ds : ((S.size : Int) != (S.size : Int)) = false := by simp
            go_wp2_with fail
            refine (HSM.out _ _ _ _ _ _ _ _ _ HDU.out ⟨(nd_and HN2.out).mono (fun k hk => hk.2), HSP2.out⟩).mono ?_
            rintro e v10 ⟨rfl, hb⟩
            have HA2 := Lib.hid (HA2.out.below hb HA2.out.lt)
            have HN2 := Lib.hid (nd_below HN2.out hb)
            have HSP2 := Lib.hid (HSP2.out.below hb)
            have HB := Lib.hid (HB.out.trans (hb.mono HB.out.size))
            clear hb HSM HDU HU c0 c1 c2 c3 c4 u0 u1 u2 u3 u4
            go_wp2
            go_roundw
            case rel => (repeat apply Exists.intro); exact ⟨⟨i + 1, ⟨Y.1, T.rs, T.bo⟩, ua, ub, A, uc, ud, capR, by omega, by go_num, HA2.out, HN2.out, HSP2.out, HSN.out, HT2.out, HB.out⟩, rfl⟩
            case measure => simp [intOf]; omega
end Go.Proofs.YtfcclppgjfkfoaaGreatDoor
