/- What the writer's padded of package token does. Conditions: at most 2^45 bytes, at most 2^30 strings. -/
import Derived.Test.YtdflflcidajenaaTkW
import Derived.Test.YtdflflcidajenaaTkK
import Derived.Test.YtdflflcidajenaaNumB
import Derived.Deep.RegionWith
import Derived.Deep.RegionHeld3
namespace Go.Proofs.Ytdflflcidajenaa
open Go.RowKit

theorem wradd_any (g : Nat) (p : Option Addr) (bv v : Value) (m : Option Nat) (S : List UInt8) (L : List ByteArray) (x : ByteArray) (w : World) (h : WR w g p bv v m S L) (hs : x.size ≤ maxLen) (hL : L.length ≤ 1073741824) :
    Calls Try.prog 34 #[.pointer (some ⟨g, 2, none⟩), .string x] w fun e w' => e = .returned (.tuple #[.int .i64 ((addV L x).1 : Int), .int .i64 ((addV L x).2 : Int)]) ∧ ∃ v' m', WR w' g p bv v' m' S (addA L x) ∧ Moved w w' (fpW g bv v m) (fpW g bv v' m') := by
  have hap := h.blk.apart h.row h.dis
  refine (wadd_any g _ _ v m L x w h.blk hs hL).mono ?_
  rintro e w' ⟨rfl, v', m', hB, hM⟩
  refine ⟨rfl, v', m', ⟨hB, h.own, hM.row h.row (fun k hk hf => hap k hf hk), fun k hk hv => ?_⟩, hM.inside (fun k hk => .inl hk) (fun k hk => ?_)⟩
  · rcases hM.foot k (.inr (.inl hv)) with h5 | h5
    · exact hap k h5 hk
    · obtain ⟨cur, hc⟩ := ow_type h.row hk
      have := (Array.getElem?_eq_some_iff.1 hc).1
      omega
  · rcases hk with hk | hk
    · exact .inr (.inl hk)
    · exact .inl (.inr hk)

theorem padL_zb (x : ByteArray) : padL x.data.toList = x.data.toList ++ (zb (up4 x.size - x.size)).data.toList := by
  unfold padL; rw [zb_list]; rfl
set_option maxHeartbeats 1600000 in
set_option maxRecDepth 100000 in
theorem wpad_any (g : Nat) (p : Option Addr) (bv v : Value) (m : Option Nat) (S : List UInt8) (L : List ByteArray) (x : ByteArray) (w : World) (h : WR w g p bv v m S L) (hl : S.length + x.size ≤ 35184372088832) :
    Calls Try.prog 33 #[.pointer (some ⟨g, 0, none⟩), .string x] w fun e w' => e = .returned (.tuple #[]) ∧ ∃ bv', WR w' g (some ⟨g, 0, none⟩) bv' v m (S ++ padL x.data.toList) L ∧ Moved w w' (fpW g bv v m) (fpW g bv' v m) := by
  have HW := Lib.hid (bwrite_any g p bv v m S L x w h (by omega))
  have hup : upOf (x.size : Int) = ((up4 x.size : Nat) : Int) := by unfold upOf up4; rw [if_neg (by omega)]; omega
  have HUP := Lib.hid (fun W => up_any (x.size : Int) W)
  rw [hup] at HUP
  have h1 := up4_ge x.size
  have h2 := up4_lt x.size
  have HZ := Lib.hid (fun (W : World) => zeros_any (up4 x.size - x.size) W (by omega))
  have e1 : ((up4 x.size - x.size : Nat) : Int) = IntKind.i64.wrap (((up4 x.size : Nat) : Int) - (x.size : Int)) := by rw [IntKind.wrap_i64]; omega
  rw [e1] at HZ
  have HPL := Lib.hid (padL_zb x)
  have hzs : (zb (up4 x.size - x.size)).size ≤ 3 := by show (zb (up4 x.size - x.size)).data.toList.length ≤ 3; rw [zb_list, List.length_replicate]; omega
  have hxl : (S ++ x.data.toList).length = S.length + x.size := by rw [List.length_append]; rfl
  have HW2 : Hid (∀ bv' W, WR W g (some ⟨g, 0, none⟩) bv' v m (S ++ x.data.toList) L → ∀ W', Below W.heap.size W W' → Calls Try.prog 17 #[.pointer (some ⟨g, 0, none⟩), .string (zb (up4 x.size - x.size))] W' fun e w' => e = .returned (.tuple #[.int .i64 ((zb (up4 x.size - x.size)).size : Int), .nilIface]) ∧ ∃ bv2, WR w' g (some ⟨g, 0, none⟩) bv2 v m (S ++ x.data.toList ++ (zb (up4 x.size - x.size)).data.toList) L ∧ Moved W' w' (fpW g bv' v m) (fpW g bv2 v m)) :=
    fun bv' W h W' hb => bwrite_any g (some ⟨g, 0, none⟩) bv' v m _ L (zb (up4 x.size - x.size)) W' (h.below hb) (by omega)
  rw [List.append_assoc] at HW2
  rw [← HPL.out] at HW2
  generalize padL x.data.toList = PX at *
  generalize zb (up4 x.size - x.size) = Z at *
  generalize up4 x.size = u at *
  clear e1 hup HPL hxl h
  go_enter Try.func33, Try.ntmps33
  go_wp2_with fail
  refine HW.out.mono ?_
  rintro e w1 ⟨rfl, bv1, hw1, hm1⟩
  have HW3 := Lib.hid (HW2.out bv1 w1 hw1)
  have HM1 := Lib.hid hm1
  have hbd : Below w1.heap.size w1 w1.drew := (Below.refl _ _).drew
  clear hw1 hm1 HW HW2
  go_upto_region 1 with fail
  go_region_with (first | (go_at_call 49; refine (HUP.out _).mono ?_; rintro e w3 ⟨rfl, rfl⟩) | (go_at_call 48; refine (HZ.out _).mono ?_; rintro e w4 ⟨rfl, rfl⟩) | (go_at_call 17; refine (HW3.out _ hbd).mono ?_; rintro e w5 ⟨rfl, bv2, hw5, hm5⟩))
  have HW5 := Lib.hid hw5
  have HM5 := Lib.hid (HM1.out.trans ((Moved.of_below hbd _).trans hm5))
  clear hw5 hm5 HM1 HW3 hbd HUP HZ
  go_end0
  exact ⟨rfl, bv2, HW5.out, HM5.out⟩

theorem WR.not_arr {w : World} {g : Nat} {p : Option Addr} {bv v : Value} {m : Option Nat} {S : List UInt8} {L : List ByteArray} (h : WR w g p bv v m S L) {g' t : Nat} {cs : Array Value} (hA : Arr w g' t cs) (h1 : t ≠ 45) (h2 : t ≠ 5) : ¬ fpW g bv v m g' := by
  rintro (hk | hk)
  · exact h.blk.not_arr hA h1 h2 hk
  · exact ow_arr hA h.row h2 hk.symm
section
variable {w W1 : World} {g g8 : Nat} {p : Option Addr} {bv v : Value} {m : Option Nat} {S : List UInt8} {L : List ByteArray} {F0 : Nat → Prop} {cs : Array Value}
/-- What is written, beside a token that stays. -/
theorem write_in (h : WR W1 g p bv v m S L) (hM : Moved w W1 F0 (fpW g bv v m)) (hA : Arr W1 g8 34 cs) (y : ByteArray) (hl : S.length + y.size ≤ 70368744177664) (W' : World) (hb : Below W1.heap.size W1 W') :
    Calls Try.prog 17 #[.pointer (some ⟨g, 0, none⟩), .string y] W' fun e w' => e = .returned (.tuple #[.int .i64 (y.size : Int), .nilIface]) ∧ ∃ bv2, WR w' g (some ⟨g, 0, none⟩) bv2 v m (S ++ y.data.toList) L ∧ Moved w w' F0 (fpW g bv2 v m) ∧ Arr w' g8 34 cs := by
  have hA' := hA.below hb hA.lt
  have h' := h.below hb
  refine (bwrite_any g p bv v m S L y W' h' hl).mono ?_
  rintro e w' ⟨rfl, bv2, h2, hm2⟩
  exact ⟨rfl, bv2, h2, hM.trans ((Moved.of_below hb _).trans hm2), hm2.arr hA' (h'.not_arr hA' (by decide) (by decide))⟩
theorem pad_in (h : WR W1 g p bv v m S L) (hM : Moved w W1 F0 (fpW g bv v m)) (hA : Arr W1 g8 34 cs) (y : ByteArray) (hl : S.length + y.size ≤ 35184372088832) :
    Calls Try.prog 33 #[.pointer (some ⟨g, 0, none⟩), .string y] W1 fun e w' => e = .returned (.tuple #[]) ∧ ∃ bv2, WR w' g (some ⟨g, 0, none⟩) bv2 v m (S ++ padL y.data.toList) L ∧ Moved w w' F0 (fpW g bv2 v m) ∧ Arr w' g8 34 cs := by
  refine (wpad_any g p bv v m S L y W1 h hl).mono ?_
  rintro e w' ⟨rfl, bv2, h2, hm2⟩
  exact ⟨rfl, bv2, h2, hM.trans hm2, hm2.arr hA (h.not_arr hA (by decide) (by decide))⟩
theorem add_in (h : WR W1 g p bv v m S L) (hM : Moved w W1 F0 (fpW g bv v m)) (hA : Arr W1 g8 34 cs) (y : ByteArray) (hy : y.size ≤ maxLen) (hL : L.length ≤ 1073741824) (W' : World) (hb : Below W1.heap.size W1 W') :
    Calls Try.prog 34 #[.pointer (some ⟨g, 2, none⟩), .string y] W' fun e w' => e = .returned (.tuple #[.int .i64 ((addV L y).1 : Int), .int .i64 ((addV L y).2 : Int)]) ∧ ∃ v' m', WR w' g p bv v' m' S (addA L y) ∧ Moved w w' F0 (fpW g bv v' m') ∧ Arr w' g8 34 cs := by
  have hA' := hA.below hb hA.lt
  have h' := h.below hb
  refine (wradd_any g p bv v m S L y W' h' hy hL).mono ?_
  rintro e w' ⟨rfl, v', m', h2, hm2⟩
  exact ⟨rfl, v', m', h2, hM.trans ((Moved.of_below hb _).trans hm2), hm2.arr hA' (h'.not_arr hA' (by decide) (by decide))⟩
end

end Go.Proofs.Ytdflflcidajenaa
