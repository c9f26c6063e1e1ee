/- What awake() of layer 1's statements returns: true. Condition: the library's table uint64pow10 holds what its initialiser lays. -/
import Derived.Test.YtjohbbaoaffgnaaDoorNumH
import Derived.Test.YtjohbbaoaffgnaaDoorNumF
namespace Go.Proofs.YtjohbbaoaffgnaaDoor
open Go.RowKit

theorem aw_frombig : frombig (ByteArray.mk #[1, 2, 3, 4]).data.toList = 16909060 := by decide +kernel
theorem aw_big : big 258 = [0, 0, 1, 2] := by decide +kernel
theorem aw_hex : (ByteArray.mk #[31]).data.toList.flatMap hex2 = [49, 102] := by decide +kernel
theorem aw_dec : Lib.itoa (-7) = [45, 55] := by
  rw [itoa_neg' (-7) (by omega)]
  have e : (-(-7 : Int)).toNat = 7 := by decide
  rw [e]
  unfold dd
  rw [if_neg (by omega), decDigits_small (by omega)]
  rfl
theorem aw_up : upOf 5 = 8 := by decide +kernel

set_option maxHeartbeats 800000 in
theorem awake01 (w : World) (ht : Tab w) : Calls Tryd.prog 6 #[] w fun e w' => e = .returned (.bool true) ∧ Below w.heap.size w w' := by
  have HT := Lib.hid ht
  clear ht
  go_enter Tryd.func6, Tryd.ntmps6
  go_wp2_with fail
  refine (frombig_yes _ w (by decide) (by decide)).mono ?_
  rintro e w1 ⟨rfl, hb1⟩
  rw [aw_frombig]
  go_wp2_with fail
  refine (big_any _ w1).mono ?_
  rintro e w2 ⟨rfl, hb2⟩
  rw [aw_big]
  have hb2' := hb1.trans (hb2.mono hb1.size)
  go_wp2_with fail
  refine (hex_any _ w2 (by decide)).mono ?_
  rintro e w3 ⟨rfl, hb3⟩
  rw [aw_hex]
  have hb3' := hb2'.trans (hb3.mono hb2'.size)
  go_wp2_with fail
  refine (dec_any _ w3 (by omega) (by omega) (HT.out.below hb3')).mono ?_
  rintro e w4 ⟨rfl, hb4⟩
  rw [aw_dec]
  have hb4' := hb3'.trans (hb4.mono hb3'.size)
  clear hb1 hb2 hb3 hb4 hb2' hb3'
  go_wp2_with fail
  refine (up_any _ w4).mono ?_
  rintro e w5 ⟨rfl, rfl⟩
  rw [aw_up]
  go_wp2
  go_ret
  exact ⟨rfl, hb4'⟩
end Go.Proofs.YtjohbbaoaffgnaaDoor
