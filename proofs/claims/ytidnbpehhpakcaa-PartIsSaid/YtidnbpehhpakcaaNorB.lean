/- What nor's change does with any function that says what becomes of a byte. Conditions: the bytes are there, and at least one. -/
import Derived.Test.YtidnbpehhpakcaaNorA
namespace Go.Proofs.Ytidnbpehhpakcaa
open Go.RowKit

/-- v is a function of an index and a byte that answers as F says, while of what was there only block g has changed. -/
def Fun1 (g : Nat) (w0 : World) (v : Value) (n : Nat) (F : Nat → UInt8 → UInt8) : Prop :=
  ∃ f caps, v = .func (.func f) #[] caps ∧ (∀ (args : Array Value) (w : World), (callFunc f args).run Try.prog w = .ok (.enter f args) w) ∧
    ∀ w, w0.grownBy w (some g) → ∀ (i : Nat) (x : UInt8), i < n → Calls Try.prog f (#[.int .i64 (i : Int), .int .u8 (x.toNat : Int)] ++ caps) w fun e w' => e = .returned (.int .u8 ((F i x).toNat : Int)) ∧ Below w.heap.size w w'

set_option maxHeartbeats 1600000 in
set_option maxRecDepth 100000 in
theorem change_any (g : Nat) (m on : Bool) (ops left : Int) (torn : ByteArray) (B : List UInt8) (a n : Nat) (v : Value) (F : Nat → UInt8 → UInt8) (w : World) (hA : Arr w g 75 (chipC m on ops left torn B)) (hB : B.length = 24576) (h0 : 0 < n) (hn : a + n ≤ 24576) (hf : Fun1 g w v n F) :
    Calls Try.prog 71 #[.pointer (some ⟨g, 0, none⟩), .int .i64 (a : Int), .int .i64 (n : Int), v] w fun e w' =>
      e = .returned (.tuple #[]) ∧ Arr w' g 75 (chipC m on ops left torn (mapAt B a n F)) ∧ w.grownBy w' (some g) := by
  obtain ⟨f, caps, rfl, hcf, hcl⟩ := hf
  have HCL := Lib.hid hcl
  have HA := Lib.hid hA
  have hsl := slice_mid g a n (by omega) hn
  have hgl := hA.lt
  clear hcl hA
  go_enter Try.func71, Try.ntmps71
  go_wp2
  go_loopw [21] (fun i wr => ∃ k : Nat, k ≤ n ∧ i = .int .i64 k ∧ Arr wr g 75 (chipC m on ops left torn (mapAt B a k F)) ∧ w.grownBy wr (some g)) (fun i _ => n - (intOf i).toNat)
  case atStart => exact ⟨0, Nat.zero_le _, rfl, by rw [mapAt_zero]; exact HA.out, grown_refl _ _⟩
  case round =>
    clear hsl HA
    obtain ⟨k, hk, rfl, hA, hg⟩ := hrel
    by_cases hlt : k < n
    · have hkl : a + k < (mapAt B a k F).length := by rw [mapAt_length]; omega
      obtain ⟨x, hx⟩ : ∃ x, B.getD (a + k) 0 = x := ⟨_, rfl⟩
      have hb := chip_byte hA hkl
      rw [mapAt_getD _ _ _ _ _ (by omega), if_neg (by omega), hx] at hb
      rw [show 5 + (a + k) = 5 + a + k by omega] at hb
      have HC := Lib.hid (HCL.out wr hg k x hlt)
      have HN : Hid (∀ w', Below wr.heap.size wr w' → Arr (w'.setCell ⟨g, 5 + a + k, none⟩ (.int .u8 ((F k x).toNat : Int))) g 75 (chipC m on ops left torn (mapAt B a (k + 1) F)) ∧ w.grownBy (w'.setCell ⟨g, 5 + a + k, none⟩ (.int .u8 ((F k x).toNat : Int))) (some g) ∧ w'.frozen? ⟨g, 5 + a + k, none⟩ = false ∧ (w'.cell? ⟨g, 5 + a + k, none⟩) = some (.int .u8 (x.toNat : Int))) := by
        intro w' hbl
        have hA' := hA.below hbl hA.lt
        have e : 5 + a + k = 5 + (a + k) := by omega
        refine ⟨?_, grown_put (grown_trans hg (grown_below hbl)) _ _, hA'.frozen _, ?_⟩
        · rw [e, ← mapAt_succ _ _ _ _ (by omega), hx]
          exact chip_setByte hA' _ _ _ rfl
        · rw [World.cell?_of_block (a := ⟨g, 5 + a + k, none⟩) (hbl.block g hA.lt)]
          exact hb
      clear hA hkl hx
      have hki : (k : Int) < n := by omega
      go_wp2_with fail
      refine HC.out.mono ?_
      rintro e w1 ⟨rfl, hbl⟩
      obtain ⟨hA1, hg1, hf1, hc1⟩ := HN.out w1 hbl
      have HA1 := Lib.hid hA1
      have HG1 := Lib.hid hg1
      clear hA1 hg1 HN HC
      go_wp2
      go_roundw
      case rel => exact ⟨k + 1, by omega, by go_num, HA1.out, HG1.out⟩
      case measure => simp [intOf]; omega
    · obtain rfl : k = n := by omega
      have HA := Lib.hid hA
      have HG := Lib.hid hg
      clear hA hg
      go_wp2
      go_end0
      exact ⟨rfl, HA.out, HG.out⟩
end Go.Proofs.Ytidnbpehhpakcaa
