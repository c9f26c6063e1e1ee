/- awake() of layer 3's statements returns true. No condition. -/
import Derived.Test.YtppfdhledmbkhaaShaN
import Derived.Test.YtppfdhledmbkhaaHex
namespace Go.Proofs.Ytppfdhledmbkhaa
open Go.RowKit

theorem rd2 (w : World) (a b : ByteArray) : RdS (w.alloc (.cells #[.string a, .string b] 9)) (some ⟨w.heap.size, 0, none⟩) [a, b] := by
  refine .inr ⟨_, _, rfl, fun k hk => ?_⟩
  rw [Nat.zero_add, World.cell?_alloc_mark]
  match k, hk with
  | 0, _ => rfl
  | 1, _ => rfl
/-- sha.Sum of one part that the call has just laid. -/
theorem shasum1 (s : ByteArray) (w : World) (hs : s.size ≤ 137438953472) :
    Calls Try.prog 5 #[.slice (some ⟨w.heap.size, 0, none⟩) 1 1] (w.alloc (.cells #[.string s] 9)) fun e w' => e = .returned (.string ⟨(hash s.data.toList).toArray⟩) ∧ Below w.heap.size w w' := by
  have e : jn [s] = s.data.toList := by simp [jn]
  have h := shasum_any (some ⟨w.heap.size, 0, none⟩) 1 [s] (w.alloc (.cells #[.string s] 9)) (rd1 w s) (by show 1 ≤ _; omega) (by rw [e]; exact hs)
  rw [e] at h
  refine h.mono ?_
  rintro r w' ⟨rfl, hb⟩
  exact ⟨rfl, ((Below.refl _ _).alloc (Nat.le_refl _) _).trans (hb.mono (by simp))⟩
theorem sum_abc (w : World) : Calls Try.prog 5 #[.slice (some ⟨w.heap.size, 0, none⟩) 1 1] (w.alloc (.cells #[.string ⟨#[97, 98, 99]⟩] 9)) fun e w' => e = .returned (.string ⟨(hash [97, 98, 99]).toArray⟩) ∧ Below w.heap.size w w' :=
  shasum1 ⟨#[97, 98, 99]⟩ w (by decide)
theorem hex_abc (w : World) : Calls Try.prog 15 #[.string ⟨(hash [97, 98, 99]).toArray⟩] w fun e w' => e = .returned (.string ⟨((hash [97, 98, 99]).flatMap hex2).toArray⟩) ∧ Below w.heap.size w w' :=
  refhex_any ⟨(hash [97, 98, 99]).toArray⟩ w (by rw [size_mk, hash_abc]; decide)
theorem abc_hex : (hash [97, 98, 99]).flatMap hex2 = [98, 97, 55, 56, 49, 54, 98, 102, 56, 102, 48, 49, 99, 102, 101, 97, 52, 49, 52, 49, 52, 48, 100, 101, 53, 100, 97, 101, 50, 50, 50, 51, 98, 48, 48, 51, 54, 49, 97, 51, 57, 54, 49, 55, 55, 97, 57, 99, 98, 52, 49, 48, 102, 102, 54, 49, 102, 50, 48, 48, 49, 53, 97, 100] := by
  rw [hash_abc]; decide +kernel
theorem jn_abc : jn [⟨#[97]⟩, ⟨#[98, 99]⟩] = [97, 98, 99] := rfl

set_option maxHeartbeats 1600000 in
set_option maxRecDepth 100000 in
theorem awake03 (w : World) : Calls Try.prog 8 #[] w fun e w' => e = .returned (.bool true) ∧ Below w.heap.size w w' := by
  have hz33 := zero33
  have hS0 := Stm.new (Arr.new w 33 zs)
  have hb0 := (Below.refl w.heap.size w).alloc (Nat.le_refl _) (.cells zs 33)
  have hl0 := hS0.lt
  have HH := Lib.hid abc_hex
  have hm0 : (w.alloc (.cells zs 33)).heap.size = w.heap.size + 1 := Array.size_push _
  have HW := Lib.hid (write_any w.heap.size (some ⟨w.heap.size + 1, 0, none⟩) 2 [⟨#[97]⟩, ⟨#[98, 99]⟩] [] ((w.alloc (.cells zs 33)).alloc (.cells #[.string ⟨#[97]⟩, .string ⟨#[98, 99]⟩] 9)) (hS0.alloc _) (by rw [← hm0]; exact rd2 _ _ _) (by show 2 ≤ _; omega) (by rw [jn_abc]; show 0 + 3 ≤ _; omega))
  rw [jn_abc, List.nil_append] at HW
  have hb1 := hb0.alloc (by omega) (.cells #[.string ⟨#[97]⟩, .string ⟨#[98, 99]⟩] 9)
  have hl1 : w.heap.size ≤ ((w.alloc (.cells zs 33)).alloc (.cells #[.string ⟨#[97]⟩, .string ⟨#[98, 99]⟩] 9)).heap.size := hb1.size
  have SUM := Lib.hid sum_abc
  clear hS0 hm0 hl0 hb0
  go_enter Try.func8, Try.ntmps8
  go_wp2_with fail
  refine HW.out.mono ?_
  rintro e w1 ⟨rfl, hS1, hg1⟩
  have b1 := below_grown hb1 hg1 (Nat.le_refl _) hl1
  have HS1 := Lib.hid hS1
  have z1 := hS1.lt
  clear hb1 hl1 hg1 hS1 HW hz33
  go_wp2_with fail
  refine (SUM.out w1).mono ?_
  rintro e w2 ⟨rfl, hb2⟩
  have HS2 := Lib.hid (HS1.out.below hb2 z1)
  have b2 := b1.trans (hb2.mono (by omega))
  have z2 := HS2.out.lt
  clear hb2 b1 z1 HS1
  go_wp2_with fail
  refine (hex_abc w2).mono ?_
  rintro e w3 ⟨rfl, hb3⟩
  rw [HH.out]
  have HS3 := Lib.hid (HS2.out.below hb3 z2)
  have b3 := b2.trans (hb3.mono (by omega))
  have z3 := HS3.out.lt
  clear hb3 b2 z2 HS2
  have HM := Lib.hid (sum_any w.heap.size [97, 98, 99] w3 HS3.out (by decide))
  go_wp2_with fail
  refine HM.out.mono ?_
  rintro e w4 ⟨rfl, hb4⟩
  have HS4 := Lib.hid (HS3.out.below hb4 z3)
  have b4 := b3.trans (hb4.mono (by omega))
  have z4 := HS4.out.lt
  clear hb4 b3 z3 HS3 HM
  go_wp2_with fail
  refine (SUM.out w4).mono ?_
  rintro e w5 ⟨rfl, hb5⟩
  have HS5 := Lib.hid (HS4.out.below hb5 z4)
  have b5 := b4.trans (hb5.mono (by omega))
  have z5 := HS5.out.lt
  clear hb5 b4 z4 HS4
  generalize hash [97, 98, 99] = H at *
  go_wp2_with fail
  refine (len_any w.heap.size [97, 98, 99] w5 HS5.out).mono ?_
  rintro e w6 ⟨rfl, rfl⟩
  go_wp2_with fail
  refine (equal_any ⟨#[97]⟩ ⟨#[97]⟩ w5 (by decide)).mono ?_
  rintro e w6 ⟨rfl, hb6⟩
  have b6 := b5.trans (hb6.mono (by omega))
  have z6 := hb6.size
  rw [show decide ((⟨#[97]⟩ : ByteArray) = ⟨#[97]⟩) = true from rfl]
  go_wp2_with fail
  refine (equal_any ⟨#[97]⟩ ⟨#[98]⟩ w6 (by decide)).mono ?_
  rintro e w7 ⟨rfl, hb7⟩
  have b7 := b6.trans (hb7.mono (by omega))
  rw [show decide ((⟨#[97]⟩ : ByteArray) = ⟨#[98]⟩) = false from by decide]
  go_wp2
  go_ret
  exact ⟨rfl, b7⟩
end Go.Proofs.Ytppfdhledmbkhaa
