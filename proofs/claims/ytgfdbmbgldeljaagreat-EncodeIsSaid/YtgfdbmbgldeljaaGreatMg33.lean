/- What named and the reader's steps nodeName, valueSize, namePlace, value, propName, kind of package token do. Conditions: strings of at most 2^40 bytes. -/
import Derived.Test.YtgfdbmbgldeljaaGreatMg32
import Derived.Test.YtgfdbmbgldeljaaGreatMg12
import Derived.Deep.MidRow
import Derived.Deep.RegionHeld3
import Derived.Test.YtgfdbmbgldeljaaGreatMg26
import Derived.Deep.RegionWith
import Derived.Test.YtgfdbmbgldeljaaGreatMg13
import Derived.Test.YtgfdbmbgldeljaaGreatMg3
namespace Go.Proofs.YtgfdbmbgldeljaaGreat
open Go.RowKit

theorem idx0_any (s : ByteArray) (w : World) : Calls Tryz.prog 80 #[.string s, .int .u8 0] w fun e w' => e = .returned (.int .i64 (if z0 s.data.toList < s.data.toList.length then ((z0 s.data.toList : Nat) : Int) else -1)) ∧ w = w' := by
  have h := Tryz.strings_IndexByte s 0 w
  rw [show (0 : Int).toNat.toUInt8 = 0 from rfl, indexByte_z0] at h
  exact h.mono fun e w' ⟨h1, h2⟩ => ⟨h1, h2.symm⟩
theorem nodeB_iff {s : ByteArray} : nodeB s = true ↔ s.size ≤ 31 ∧ (0 : UInt8) ∉ s.data.toList := by
  unfold nodeB
  rw [Bool.or_eq_true, decide_eq_true_iff, mayB_iff]
  constructor
  · rintro (h | ⟨_, h⟩)
    · have : s.data.toList = [] := List.eq_nil_of_length_eq_zero h
      rw [this]; exact ⟨by omega, by simp⟩
    · exact h
  · rintro ⟨h1, h2⟩
    by_cases h : s.size = 0
    · exact .inl h
    · exact .inr ⟨by omega, h1, h2⟩
set_option maxHeartbeats 400000 in
set_option maxRecDepth 100000 in
theorem named_any (s : ByteArray) (w : World) (hl : s.size ≤ maxLen) : Calls Tryz.prog 62 #[.string s] w fun e w' => e = .returned (.bool (nodeB s)) ∧ w = w' := by
  have hm := z0_mem s.data.toList
  have HI := Lib.hid (idx0_any s)
  unfold maxLen at hl
  by_cases h2 : s.size ≤ 31
  · have d2 : decide ((s.size : Int) ≤ 31) = true := decide_eq_true (by omega)
    by_cases h3 : z0 s.data.toList < s.data.toList.length
    · have hf : nodeB s = false := by cases e : nodeB s with
        | false => rfl
        | true => exact absurd (hm.2 h3) (nodeB_iff.1 e).2
      rw [hf]
      rw [if_pos h3] at HI
      have d3 : decide (((z0 s.data.toList : Nat) : Int) < 0) = false := decide_eq_false (by omega)
      generalize z0 s.data.toList = z at *
      clear hm h3 hf h2
      go_enter Tryz.func62, Tryz.ntmps62
      go_wp2_with fail
      refine (HI.out _).mono ?_
      rintro e w1 ⟨rfl, rfl⟩
      go_wp2
      go_ret
      exact ⟨rfl, rfl⟩
    · have hf : nodeB s = true := nodeB_iff.2 ⟨h2, fun h => h3 (hm.1 h)⟩
      rw [hf]
      rw [if_neg h3] at HI
      clear hm h3 hf h2
      go_enter Tryz.func62, Tryz.ntmps62
      go_wp2_with fail
      refine (HI.out _).mono ?_
      rintro e w1 ⟨rfl, rfl⟩
      go_wp2
      go_ret
      exact ⟨rfl, rfl⟩
  · have hf : nodeB s = false := by cases e : nodeB s with
      | false => rfl
      | true => exact absurd (nodeB_iff.1 e).1 h2
    rw [hf]
    have d2 : decide ((s.size : Int) ≤ 31) = false := decide_eq_false (by omega)
    clear hm hf h2
    go_enter Tryz.func62, Tryz.ntmps62
    go_wp2
    go_ret
    exact ⟨rfl, rfl⟩

/-- Block g is a reader. -/
def Rdr (w : World) (g : Nat) (s t : ByteArray) (kd : Int) (nm vl : ByteArray) (sz pl : Int) : Prop := Arr w g 134 #[.string s, .string t, .int .i64 kd, .string nm, .string vl, .int .i64 sz, .int .i64 pl]

theorem padE_cases (l : List UInt8) (n : Nat) : padE l n = 14 ∨ padE l n = 6 ∨ padE l n = 0 := by
  unfold padE
  split
  · exact .inl rfl
  · split
    · exact .inr (.inr rfl)
    · exact .inr (.inl rfl)
theorem padE_short {l : List UInt8} {n : Nat} : padE l n = 14 ↔ l.length < up4 n := by
  unfold padE
  split
  · rename_i h; simp [h]
  · rename_i h
    split <;> simp [h]
theorem padE_ok {l : List UInt8} {n : Nat} : padE l n = 0 ↔ up4 n ≤ l.length ∧ zerosB ((l.take (up4 n)).drop n) = true := by
  unfold padE
  split
  · rename_i h; simp; omega
  · rename_i h
    split
    · rename_i h2; simp [h2]; omega
    · rename_i h2; simp [h2]
/-- The byte 0 at a name's end is one of those that must be 0. -/
theorem zeros_end (l : List UInt8) (u : Nat) (h : z0 l < l.length) (hu : z0 l < u) : zerosB ((l.take u).drop (z0 l)) = zerosB ((l.take u).drop (z0 l + 1)) := by
  have hlt : z0 l < (l.take u).length := by rw [List.length_take]; omega
  rw [List.drop_eq_getElem_cons hlt]
  have h0 : (l.take u)[z0 l] = 0 := by
    rw [List.getElem_take]
    have := z0_at l h
    rwa [List.getD_eq_getElem?_getD, List.getElem?_eq_getElem h] at this
  rw [h0]
  unfold zerosB
  simp
/-- How a node's name is read, step by step. -/
theorem beginR_none {l : List UInt8} (h : ¬ z0 l < l.length) : beginR l = (ByteArray.empty, 0, 14) := beginR_short (.inl (by omega))
theorem beginR_14 {l : List UInt8} (h : padE l (z0 l + 1) = 14) : beginR l = (ByteArray.empty, 0, 14) := beginR_short (.inr (padE_short.1 h))
theorem beginR_6 {l : List UInt8} (h0 : z0 l < l.length) (h : padE l (z0 l + 1) = 6) : beginR l = (ByteArray.empty, 0, 6) := by
  have h14 : ¬ l.length < up4 (z0 l + 1) := fun hh => by rw [padE_short.2 hh] at h; cases h
  have hz : zerosB ((l.take (up4 (z0 l + 1))).drop (z0 l + 1)) = false := by
    cases e : zerosB ((l.take (up4 (z0 l + 1))).drop (z0 l + 1)) with
    | false => rfl
    | true => rw [padE_ok.2 ⟨by omega, e⟩] at h; cases h
  have := up4_ge (z0 l + 1)
  rw [beginR_long (by omega), zeros_end l _ h0 (by omega), hz, Bool.and_false]
  exact if_neg (by decide)
theorem beginR_0 {l : List UInt8} (h0 : z0 l < l.length) (h : padE l (z0 l + 1) = 0) : beginR l = if nodeB ⟨(l.take (z0 l)).toArray⟩ = true then (⟨(l.take (z0 l)).toArray⟩, up4 (z0 l + 1), 0) else (ByteArray.empty, 0, 6) := by
  obtain ⟨h1, h2⟩ := padE_ok.1 h
  have := up4_ge (z0 l + 1)
  rw [beginR_long (by omega), zeros_end l _ h0 (by omega), h2, Bool.and_true]

set_option maxHeartbeats 1600000 in
set_option maxRecDepth 100000 in
theorem nodeName_any (g : Nat) (s t : ByteArray) (kd : Int) (nm vl : ByteArray) (sz pl : Int) (a : Nat) (w : World) (hA : Rdr w g s t kd nm vl sz pl) (ha : a ≤ s.size) (hm : s.size ≤ 1099511627776) (bn : ByteArray) (n er : Nat) (hb : beginR (s.data.toList.drop a) = (bn, n, er)) :
    Calls Tryz.prog 89 #[.pointer (some ⟨g, 0, none⟩), .int .i64 (a : Int)] w fun e w' => ∃ (nx : Int) (nm' : ByteArray), e = .returned (.tuple #[.int .i64 nx, .int .i64 (er : Int)]) ∧ Rdr w' g s t kd nm' vl sz pl ∧ w.grownBy w' (some g) ∧ (er = 0 → nm' = bn ∧ nx = ((a + n : Nat) : Int)) := by
  have HI := Lib.hid (fun W => idx0_any (s.extract a s.size) W)
  have hlen : (s.data.toList.drop a).length = s.size - a := by rw [List.length_drop]; rfl
  rw [drop_str, hlen] at HI
  have c0 : (0 : Int) ≤ a := by omega
  have c1 : (a : Int) ≤ s.size := by omega
  have HA := Lib.hid hA
  have k0 : w.cell? ⟨g, 0, none⟩ = some (.string s) := hA.cell 0
  by_cases hz : z0 (s.data.toList.drop a) < s.size - a
  · have hz' : z0 (s.data.toList.drop a) < (s.data.toList.drop a).length := by rw [hlen]; exact hz
    rw [if_pos hz] at HI
    have HPD := Lib.hid (rdpad_any g _ s a (z0 (s.data.toList.drop a) + 1) w hA rfl ha hm (by omega))
    have hup := up4_ge (z0 (s.data.toList.drop a) + 1)
    have e1 : ((z0 (s.data.toList.drop a) + 1 : Nat) : Int) = ((z0 (s.data.toList.drop a) : Nat) : Int) + 1 := by omega
    rw [e1] at HPD
    have d0 : decide (((z0 (s.data.toList.drop a) : Nat) : Int) < 0) = false := decide_eq_false (by omega)
    clear e1 hA
    have hsz : (s.extract a (a + z0 (s.data.toList.drop a))).size = z0 (s.data.toList.drop a) := by rw [ByteArray.size_extract]; omega
    have hex : s.extract a (a + z0 (s.data.toList.drop a)) = ⟨((s.data.toList.drop a).take (z0 (s.data.toList.drop a))).toArray⟩ := by rw [cut_mid, ← List.take_drop]
    rcases padE_cases (s.data.toList.drop a) (z0 (s.data.toList.drop a) + 1) with h | h | h
    · rw [beginR_14 h] at hb
      cases hb
      have HP := Lib.hid (HPD.out 14 h)
      clear HPD h hz' hlen hup hsz hex
      generalize z0 (s.data.toList.drop a) = k at *
      go_enter Tryz.func89, Tryz.ntmps89
      go_wp2_with fail
      refine (HI.out _).mono ?_
      rintro e w1 ⟨rfl, rfl⟩
      go_wp2_with fail
      refine HP.out.mono ?_
      rintro e w2 ⟨rfl, hb2⟩
      have HA2 := Lib.hid (HA.out.below hb2 HA.out.lt)
      go_wp2
      go_ret2
      exact ⟨_, nm, rfl, HA2.out, gr_below hb2, fun h => by cases h⟩
    · rw [beginR_6 hz' h] at hb
      cases hb
      have HP := Lib.hid (HPD.out 6 h)
      clear HPD h hz' hlen hup hsz hex
      generalize z0 (s.data.toList.drop a) = k at *
      go_enter Tryz.func89, Tryz.ntmps89
      go_wp2_with fail
      refine (HI.out _).mono ?_
      rintro e w1 ⟨rfl, rfl⟩
      go_wp2_with fail
      refine HP.out.mono ?_
      rintro e w2 ⟨rfl, hb2⟩
      have HA2 := Lib.hid (HA.out.below hb2 HA.out.lt)
      go_wp2
      go_ret2
      exact ⟨_, nm, rfl, HA2.out, gr_below hb2, fun h => by cases h⟩
    · rw [beginR_0 hz' h] at hb
      have HP := Lib.hid (HPD.out 0 h)
      rw [if_pos rfl] at HP
      obtain ⟨x, hx⟩ : ∃ x, s.extract a (a + z0 (s.data.toList.drop a)) = x := ⟨_, rfl⟩
      rw [← hex, hx] at hb
      have HND := Lib.hid (fun W => named_any x W (by rw [← hx, hsz]; unfold maxLen; omega))
      have c2 : (a : Int) ≤ (a : Int) + ((z0 (s.data.toList.drop a) : Nat) : Int) := by omega
      have c3 : (a : Int) + ((z0 (s.data.toList.drop a) : Nat) : Int) ≤ s.size := by omega
      have hu := (padE_ok.1 h).1
      rw [hlen] at hu
      have HU : Hid (a + up4 (z0 (s.data.toList.drop a) + 1) ≤ s.size) := by unfold Hid; omega
      clear HPD h hz' hlen hup hsz hex hu
      generalize up4 (z0 (s.data.toList.drop a) + 1) = u at *
      generalize z0 (s.data.toList.drop a) = k at *
      cases hnb : nodeB x with
      | false =>
        rw [hnb, if_neg (by decide)] at hb
        rw [hnb] at HND
        cases hb
        clear hnb
        go_enter Tryz.func89, Tryz.ntmps89
        go_wp2_with fail
        refine (HI.out _).mono ?_
        rintro e w1 ⟨rfl, rfl⟩
        go_wp2_with fail
        refine HP.out.mono ?_
        rintro e w2 ⟨rfl, hb2⟩
        have HA2 := Lib.hid (HA.out.below hb2 HA.out.lt)
        have HG2 := Lib.hid (gr_below (r := some g) hb2)
        have k0 : w2.cell? ⟨g, 0, none⟩ = some (.string s) := HA2.out.cell 0
        have k3 : w2.cell? ⟨g, 3, none⟩ = some (.string nm) := HA2.out.cell 3
        have f3 := HA2.out.frozen 3
        have HA3 := Lib.hid (HA2.out.put 3 (.string x))
        have HG3 := Lib.hid (World.grownBy.trans HG2.out (gr_cell w2 g 3 (.string x)))
        clear hb2 HA HP
        go_wp2_with fail
        refine (HND.out _).mono ?_
        rintro e w4 ⟨rfl, rfl⟩
        go_wp2
        go_ret2
        exact ⟨_, x, rfl, HA3.out, HG3.out, fun h => by cases h⟩
      | true =>
        rw [hnb, if_pos rfl] at hb
        rw [hnb] at HND
        cases hb
        clear hnb
        go_enter Tryz.func89, Tryz.ntmps89
        go_wp2_with fail
        refine (HI.out _).mono ?_
        rintro e w1 ⟨rfl, rfl⟩
        go_wp2_with fail
        refine HP.out.mono ?_
        rintro e w2 ⟨rfl, hb2⟩
        have HA2 := Lib.hid (HA.out.below hb2 HA.out.lt)
        have HG2 := Lib.hid (gr_below (r := some g) hb2)
        have k0 : w2.cell? ⟨g, 0, none⟩ = some (.string s) := HA2.out.cell 0
        have k3 : w2.cell? ⟨g, 3, none⟩ = some (.string nm) := HA2.out.cell 3
        have f3 := HA2.out.frozen 3
        have HA3 := Lib.hid (HA2.out.put 3 (.string bn))
        have HG3 := Lib.hid (World.grownBy.trans HG2.out (gr_cell w2 g 3 (.string bn)))
        clear hb2 HA HP
        go_wp2_with fail
        refine (HND.out _).mono ?_
        rintro e w4 ⟨rfl, rfl⟩
        go_wp2
        go_ret2
        exact ⟨_, bn, rfl, HA3.out, HG3.out, fun _ => ⟨rfl, rfl⟩⟩
  · rw [beginR_none (by rw [hlen]; exact hz)] at hb
    cases hb
    rw [if_neg hz] at HI
    clear hz hlen
    go_enter Tryz.func89, Tryz.ntmps89
    go_wp2_with fail
    refine (HI.out _).mono ?_
    rintro e w1 ⟨rfl, rfl⟩
    go_wp2
    go_ret2
    exact ⟨_, nm, rfl, HA.out, gr_below (Below.refl _ _), fun h => by cases h⟩
end Go.Proofs.YtgfdbmbgldeljaaGreat

/- What the writer's padded of package token does. Conditions: at most 2^45 bytes, at most 2^30 strings. -/
namespace Go.Proofs.YtgfdbmbgldeljaaGreat
open Go.RowKit

theorem wradd_any (g : Nat) (p : Option Addr) (bv v : Value) (m : Option Nat) (S : List UInt8) (L : List ByteArray) (x : ByteArray) (w : World) (h : WR w g p bv v m S L) (hs : x.size ≤ maxLen) (hL : L.length ≤ 1073741824) :
    Calls Tryz.prog 64 #[.pointer (some ⟨g, 2, none⟩), .string x] w fun e w' => e = .returned (.tuple #[.int .i64 ((addV L x).1 : Int), .int .i64 ((addV L x).2 : Int)]) ∧ ∃ v' m', WR w' g p bv v' m' S (addA L x) ∧ Moved w w' (fpW g bv v m) (fpW g bv v' m') := by
  have hap := h.blk.apart h.row h.dis
  refine (wadd_any g _ _ v m L x w h.blk hs hL).mono ?_
  rintro e w' ⟨rfl, v', m', hB, hM⟩
  refine ⟨rfl, v', m', ⟨hB, h.own, hM.row h.row (fun k hk hf => hap k hf hk), fun k hk hv => ?_⟩, hM.inside (fun k hk => .inl hk) (fun k hk => ?_)⟩
  · rcases hM.foot k (.inr (.inl hv)) with h5 | h5
    · exact hap k h5 hk
    · obtain ⟨cur, hc⟩ := ow_type h.row hk
      have := (Array.getElem?_eq_some_iff.1 hc).1
      omega
  · rcases hk with hk | hk
    · exact .inr (.inl hk)
    · exact .inl (.inr hk)

theorem padL_zb (x : ByteArray) : padL x.data.toList = x.data.toList ++ (zb (up4 x.size - x.size)).data.toList := by
  unfold padL; rw [zb_list]; rfl
set_option maxHeartbeats 1600000 in
set_option maxRecDepth 100000 in
theorem wpad_any (g : Nat) (p : Option Addr) (bv v : Value) (m : Option Nat) (S : List UInt8) (L : List ByteArray) (x : ByteArray) (w : World) (h : WR w g p bv v m S L) (hl : S.length + x.size ≤ 35184372088832) :
    Calls Tryz.prog 63 #[.pointer (some ⟨g, 0, none⟩), .string x] w fun e w' => e = .returned (.tuple #[]) ∧ ∃ bv', WR w' g (some ⟨g, 0, none⟩) bv' v m (S ++ padL x.data.toList) L ∧ Moved w w' (fpW g bv v m) (fpW g bv' v m) := by
  have HW := Lib.hid (bwrite_any g p bv v m S L x w h (by omega))
  have hup : upOf (x.size : Int) = ((up4 x.size : Nat) : Int) := by unfold upOf up4; rw [if_neg (by omega)]; omega
  have HUP := Lib.hid (fun W => up_any (x.size : Int) W)
  rw [hup] at HUP
  have h1 := up4_ge x.size
  have h2 := up4_lt x.size
  have HZ := Lib.hid (fun (W : World) => zeros_any (up4 x.size - x.size) W (by omega))
  have e1 : ((up4 x.size - x.size : Nat) : Int) = IntKind.i64.wrap (((up4 x.size : Nat) : Int) - (x.size : Int)) := by rw [IntKind.wrap_i64]; omega
  rw [e1] at HZ
  have HPL := Lib.hid (padL_zb x)
  have hzs : (zb (up4 x.size - x.size)).size ≤ 3 := by show (zb (up4 x.size - x.size)).data.toList.length ≤ 3; rw [zb_list, List.length_replicate]; omega
  have hxl : (S ++ x.data.toList).length = S.length + x.size := by rw [List.length_append]; rfl
  have HW2 : Hid (∀ bv' W, WR W g (some ⟨g, 0, none⟩) bv' v m (S ++ x.data.toList) L → ∀ W', Below W.heap.size W W' → Calls Tryz.prog 25 #[.pointer (some ⟨g, 0, none⟩), .string (zb (up4 x.size - x.size))] W' fun e w' => e = .returned (.tuple #[.int .i64 ((zb (up4 x.size - x.size)).size : Int), .nilIface]) ∧ ∃ bv2, WR w' g (some ⟨g, 0, none⟩) bv2 v m (S ++ x.data.toList ++ (zb (up4 x.size - x.size)).data.toList) L ∧ Moved W' w' (fpW g bv' v m) (fpW g bv2 v m)) :=
    fun bv' W h W' hb => bwrite_any g (some ⟨g, 0, none⟩) bv' v m _ L (zb (up4 x.size - x.size)) W' (h.below hb) (by omega)
  rw [List.append_assoc] at HW2
  rw [← HPL.out] at HW2
  generalize padL x.data.toList = PX at *
  generalize zb (up4 x.size - x.size) = Z at *
  generalize up4 x.size = u at *
  clear e1 hup HPL hxl h
  go_enter Tryz.func63, Tryz.ntmps63
  go_wp2_with fail
  refine HW.out.mono ?_
  rintro e w1 ⟨rfl, bv1, hw1, hm1⟩
  have HW3 := Lib.hid (HW2.out bv1 w1 hw1)
  have HM1 := Lib.hid hm1
  have hbd : Below w1.heap.size w1 w1.drew := (Below.refl _ _).drew
  clear hw1 hm1 HW HW2
  go_upto_region 1 with fail
  go_region_with (first | (go_at_call 42; refine (HUP.out _).mono ?_; rintro e w3 ⟨rfl, rfl⟩) | (go_at_call 81; refine (HZ.out _).mono ?_; rintro e w4 ⟨rfl, rfl⟩) | (go_at_call 25; refine (HW3.out _ hbd).mono ?_; rintro e w5 ⟨rfl, bv2, hw5, hm5⟩))
  have HW5 := Lib.hid hw5
  have HM5 := Lib.hid (HM1.out.trans ((Moved.of_below hbd _).trans hm5))
  clear hw5 hm5 HM1 HW3 hbd HUP HZ
  go_end0
  exact ⟨rfl, bv2, HW5.out, HM5.out⟩

theorem WR.not_arr {w : World} {g : Nat} {p : Option Addr} {bv v : Value} {m : Option Nat} {S : List UInt8} {L : List ByteArray} (h : WR w g p bv v m S L) {g' t : Nat} {cs : Array Value} (hA : Arr w g' t cs) (h1 : t ≠ 86) (h2 : t ≠ 5) : ¬ fpW g bv v m g' := by
  rintro (hk | hk)
  · exact h.blk.not_arr hA h1 h2 hk
  · exact ow_arr hA h.row h2 hk.symm
section
variable {w W1 : World} {g g8 : Nat} {p : Option Addr} {bv v : Value} {m : Option Nat} {S : List UInt8} {L : List ByteArray} {F0 : Nat → Prop} {cs : Array Value}
/-- What is written, beside a token that stays. -/
theorem write_in (h : WR W1 g p bv v m S L) (hM : Moved w W1 F0 (fpW g bv v m)) (hA : Arr W1 g8 88 cs) (y : ByteArray) (hl : S.length + y.size ≤ 70368744177664) (W' : World) (hb : Below W1.heap.size W1 W') :
    Calls Tryz.prog 25 #[.pointer (some ⟨g, 0, none⟩), .string y] W' fun e w' => e = .returned (.tuple #[.int .i64 (y.size : Int), .nilIface]) ∧ ∃ bv2, WR w' g (some ⟨g, 0, none⟩) bv2 v m (S ++ y.data.toList) L ∧ Moved w w' F0 (fpW g bv2 v m) ∧ Arr w' g8 88 cs := by
  have hA' := hA.below hb hA.lt
  have h' := h.below hb
  refine (bwrite_any g p bv v m S L y W' h' hl).mono ?_
  rintro e w' ⟨rfl, bv2, h2, hm2⟩
  exact ⟨rfl, bv2, h2, hM.trans ((Moved.of_below hb _).trans hm2), hm2.arr hA' (h'.not_arr hA' (by decide) (by decide))⟩
theorem pad_in (h : WR W1 g p bv v m S L) (hM : Moved w W1 F0 (fpW g bv v m)) (hA : Arr W1 g8 88 cs) (y : ByteArray) (hl : S.length + y.size ≤ 35184372088832) :
    Calls Tryz.prog 63 #[.pointer (some ⟨g, 0, none⟩), .string y] W1 fun e w' => e = .returned (.tuple #[]) ∧ ∃ bv2, WR w' g (some ⟨g, 0, none⟩) bv2 v m (S ++ padL y.data.toList) L ∧ Moved w w' F0 (fpW g bv2 v m) ∧ Arr w' g8 88 cs := by
  refine (wpad_any g p bv v m S L y W1 h hl).mono ?_
  rintro e w' ⟨rfl, bv2, h2, hm2⟩
  exact ⟨rfl, bv2, h2, hM.trans hm2, hm2.arr hA (h.not_arr hA (by decide) (by decide))⟩
theorem add_in (h : WR W1 g p bv v m S L) (hM : Moved w W1 F0 (fpW g bv v m)) (hA : Arr W1 g8 88 cs) (y : ByteArray) (hy : y.size ≤ maxLen) (hL : L.length ≤ 1073741824) (W' : World) (hb : Below W1.heap.size W1 W') :
    Calls Tryz.prog 64 #[.pointer (some ⟨g, 2, none⟩), .string y] W' fun e w' => e = .returned (.tuple #[.int .i64 ((addV L y).1 : Int), .int .i64 ((addV L y).2 : Int)]) ∧ ∃ v' m', WR w' g p bv v' m' S (addA L y) ∧ Moved w w' F0 (fpW g bv v' m') ∧ Arr w' g8 88 cs := by
  have hA' := hA.below hb hA.lt
  have h' := h.below hb
  refine (wradd_any g p bv v m S L y W' h' hy hL).mono ?_
  rintro e w' ⟨rfl, v', m', h2, hm2⟩
  exact ⟨rfl, v', m', h2, hM.trans ((Moved.of_below hb _).trans hm2), hm2.arr hA' (h'.not_arr hA' (by decide) (by decide))⟩
end

end Go.Proofs.YtgfdbmbgldeljaaGreat

/- What package token must do, said over nothing of its code; and the awake() of layer 10's statements. Conditions: those contracts. -/
namespace Go.Proofs.YtgfdbmbgldeljaaGreat
open Go.RowKit

/-- A slice of tokens that a call has returned. -/
def Ret10 (w : World) (v : Value) (r : List TK) : Prop := ∃ A cap, v = .slice A r.length cap ∧ RdTk w A r ∧ r.length ≤ cap ∧ cap ≤ maxLen
theorem Got10.ret {B : Nat} {w : World} {v : Value} {r : List TK} (h : Got10 B w v r) : Ret10 w v r := by
  obtain ⟨A, cap, rfl, hr⟩ := row_rdTk h
  refine ⟨A, cap, rfl, hr, ?_⟩
  rcases h.2 with ⟨e, hz⟩ | ⟨g, cap', cur, e, _, _, hn, hm, _⟩
  · injection e with _ e2 e3
    subst e3
    exact ⟨by omega, Nat.zero_le _⟩
  · injection e with _ _ e3
    subst e3
    exact ⟨hn, hm⟩
/-- The tokens that awake() takes. -/
def l10 : List TK := [⟨1, ⟨#[]⟩, ⟨#[]⟩⟩, ⟨3, ⟨#[97]⟩, ⟨#[120, 121, 122]⟩⟩, ⟨4, ⟨#[]⟩, ⟨#[]⟩⟩, ⟨2, ⟨#[]⟩, ⟨#[]⟩⟩]
def s10 : ByteArray := ⟨#[0, 0, 0, 1, 0, 0, 0, 0, 0, 0, 0, 3, 0, 0, 0, 3, 0, 0, 0, 0, 120, 121, 122, 0, 0, 0, 0, 4, 0, 0, 0, 2, 0, 0, 0, 9]⟩
theorem put10 : putR l10 = (s10, ⟨#[97, 0]⟩, 0) := by rfl
theorem ok10 : okL (putB [] l10) := okL_putB l10 okL_nil
theorem read10 : readR 1024 s10.data.toList [97, 0] = (l10, 0) := by
  have h := readR_put l10 [] 1024 (by decide) ok10 (by decide) (by
    intro x hx
    simp only [l10, List.mem_cons, List.mem_nil_iff, or_false] at hx
    rcases hx with rfl | rfl | rfl | rfl <;> decide)
  exact h
theorem readx10 : readR 1024 (s10.data.toList ++ [120]) [97, 0] = ([], 6) := by rfl
theorem plain10 : (plainR l10).length = 3 := by rfl
theorem rdTk_new (w : World) (t : TypeId) (l : List TK) : RdTk (w.alloc (.cells (tkL l).toArray t)) (some ⟨w.heap.size, 0, none⟩) l := by
  have h := Arr.new w t (tkL l).toArray
  refine .inr ⟨w.heap.size, 0, rfl, fun k hk => ?_⟩
  obtain ⟨h1, h2, h3⟩ := tkL_at l hk
  refine ⟨?_, ?_, ?_⟩
  · rw [h.cell, Nat.zero_add, List.getElem?_toArray, h1]
  · rw [h.cell, Nat.zero_add, List.getElem?_toArray, h2]
  · rw [h.cell, Nat.zero_add, List.getElem?_toArray, h3]

end Go.Proofs.YtgfdbmbgldeljaaGreat
