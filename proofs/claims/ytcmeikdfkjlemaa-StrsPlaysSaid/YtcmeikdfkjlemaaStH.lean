/- The awake() of layer 9's statements returns true. No condition. -/
import Derived.Test.YtcmeikdfkjlemaaStG
namespace Go.Proofs.Ytcmeikdfkjlemaa
open Go.RowKit

/-- The strings that awake() takes. -/
def l9 : List ByteArray := [⟨#[114, 101, 103]⟩, ⟨#[115, 105, 122, 101]⟩, ⟨#[114, 101, 103]⟩]
theorem l9_off : offN l9 = [0, 4, 0] ∧ offS l9 = ⟨#[114, 101, 103, 0, 115, 105, 122, 101, 0]⟩ ∧ offE l9 = 0 := by
  refine ⟨?_, ?_, ?_⟩ <;> decide
theorem l9_get : getR (ByteArray.mk #[114, 101, 103, 0, 115, 105, 122, 101, 0]).data.toList 5 = (⟨#[105, 122, 101]⟩, 0) := by decide

set_option maxHeartbeats 1600000 in
set_option maxRecDepth 100000 in
theorem awake9 (w : World) : Calls Try.prog 6 #[] w fun e w' => e = .returned (.bool true) ∧ Below w.heap.size w w' := by
  have HOF : Hid (Calls Try.prog 10 #[.slice (some ⟨w.heap.size, 0, none⟩) 3 3] (w.alloc (.cells #[.string ⟨#[114, 101, 103]⟩, .string ⟨#[115, 105, 122, 101]⟩, .string ⟨#[114, 101, 103]⟩] 9)) fun e w' => ∃ A cap, e = .returned (.tuple #[.slice A 3 cap, .string ⟨#[114, 101, 103, 0, 115, 105, 122, 101, 0]⟩, .int .i64 0]) ∧ RdK .i64 w' A [0, 4, 0] ∧ Below w.heap.size w w') := by
    have h := soffsets_any (some ⟨w.heap.size, 0, none⟩) 3 l9 _ (rdT_new w 9 l9) (by decide) (by
      intro k hk
      match k, hk with
      | 0, _ => decide
      | 1, _ => decide
      | 2, _ => decide)
    rw [l9_off.1, l9_off.2.1, l9_off.2.2] at h
    refine h.mono ?_
    rintro e w' ⟨v, rfl, ho, hb⟩
    obtain ⟨A, cap, rfl, hk⟩ := row_rdK (P := [0, 4, 0]) ho
    exact ⟨A, cap, rfl, hk, ((Below.refl _ _).alloc (Nat.le_refl _) _).trans (hb.mono (by rw [sz_alloc]; omega))⟩
  have HGE := Lib.hid (fun W => sget_any ⟨#[114, 101, 103, 0, 115, 105, 122, 101, 0]⟩ 5 W (by decide) (by decide) (by decide))
  rw [l9_get] at HGE
  have HSM : Hid (∀ (W : World) A cap, RdK .i64 W A [0, 4, 0] → Calls Try.prog 14 #[.slice A 3 cap, .slice (some ⟨W.heap.size, 0, none⟩) 3 3] (W.alloc (.cells #[.int .i64 0, .int .i64 4, .int .i64 0] 3)) fun e w' => e = .returned (.bool true) ∧ Below W.heap.size W w') := by
    intro W A cap h
    have hb := (Below.refl W.heap.size W).alloc (Nat.le_refl _) (.cells #[.int .i64 0, .int .i64 4, .int .i64 0] 3)
    have hA := Arr.new W 3 #[.int .i64 0, .int .i64 4, .int .i64 0]
    have h2 : RdK .i64 (W.alloc (.cells #[.int .i64 0, .int .i64 4, .int .i64 0] 3)) (some ⟨W.heap.size, 0, none⟩) [0, 4, 0] := .inr ⟨W.heap.size, 0, rfl, fun k hk => by
      match k, hk with
      | 0, _ => exact hA.cell 0
      | 1, _ => exact hA.cell 1
      | 2, _ => exact hA.cell 2⟩
    exact (sameK_any A _ cap 3 [0, 4, 0] _ (by decide) (h.below hb) h2).mono fun _ _ ⟨h3, h4⟩ => ⟨h3, hb.trans (h4.mono (by rw [sz_alloc]; omega))⟩
  go_enter Try.func6, Try.ntmps6
  go_wp2_with fail
  refine HOF.out.mono ?_
  rintro e w1 ⟨A, cap, rfl, hk, hb1⟩
  have HK := Lib.hid hk
  have HB1 := Lib.hid hb1
  have hz1 := hb1.size
  clear hk hb1 HOF
  go_wp2_with fail
  refine (HGE.out _).mono ?_
  rintro e w2 ⟨rfl, n, rfl⟩
  have HK2 : Hid (RdK .i64 (w1.drewN n) A [0, 4, 0]) := HK.out.below (below_drewN w1 n)
  have HB2 : Hid (Below w.heap.size w (w1.drewN n)) := HB1.out.trans ((below_drewN w1 n).mono hz1)
  have hz2 := HB2.out.size
  generalize w1.drewN n = w2 at *
  clear HK HB1 HGE
  go_wp2_with fail
  refine (HSM.out _ _ _ HK2.out).mono ?_
  rintro e w3 ⟨rfl, hb3⟩
  have HB3 := Lib.hid (HB2.out.trans (hb3.mono hz2))
  clear hb3 HSM HK2 HB2
  go_wp2
  go_ret
  exact ⟨rfl, HB3.out⟩
end Go.Proofs.Ytcmeikdfkjlemaa
