/- The functions that nor's Erase and Program hand down, and what blow and operate make of them. Conditions: the bytes are there, at least one; fewer than 2^62 operations. -/
import Derived.Test.YtidnbpehhpakcaaNorB
import Derived.Deep.QuietTactic
import Derived.BigQuiet
namespace Go.Proofs.Ytidnbpehhpakcaa
open Go.RowKit

theorem bs_get {s : ByteArray} {k : Nat} (h : k < s.size) : s.data.toList.getD k 0 = s[k] := by rw [List.getD_eq_getElem?_getD, List.getElem?_eq_getElem (by simpa using h)]; rfl
theorem b_and (x y : UInt8) : bits .and .u8 (x.toNat : Int) (y.toNat : Int) = ((x &&& y).toNat : Int) := by
  rw [u8_and_nat _ _ (by have := x.toNat_lt; omega) (by have := y.toNat_lt; omega), UInt8.toNat_and]
theorem b_or (x y : UInt8) : bits .or .u8 (x.toNat : Int) (y.toNat : Int) = ((x ||| y).toNat : Int) := by
  rw [u8_or_nat _ _ (by have := x.toNat_lt; omega) (by have := y.toNat_lt; omega), UInt8.toNat_or]
/-- v is a function of an index and two bytes that answers as T says, while of what was there only block g has changed. -/
def Fun2 (g : Nat) (w0 : World) (v : Value) (n : Nat) (T : Nat → UInt8 → UInt8 → UInt8) : Prop :=
  ∃ f caps, v = .func (.func f) #[] caps ∧ (∀ (args : Array Value) (w : World), (callFunc f args).run Try.prog w = .ok (.enter f args) w) ∧
    ∀ w, w0.grownBy w (some g) → ∀ (i : Nat) (x b : UInt8), i < n → Calls Try.prog f (#[.int .i64 (i : Int), .int .u8 (x.toNat : Int), .int .u8 (b.toNat : Int)] ++ caps) w fun e w' => e = .returned (.int .u8 ((T i x b).toNat : Int)) ∧ w = w'
theorem er1_fun (g : Nat) (w0 : World) (n : Nat) : Fun1 g w0 (.func (.func 65) #[] #[]) n erF := by
  refine ⟨_, _, rfl, Try.call65, fun w _ i x _ => ?_⟩
  have h255 : Hid ((255 : Int) = ((erF i x).toNat : Int)) := rfl
  go_enter Try.func65, Try.ntmps65
  go_wp2
  go_ret
  exact ⟨by rw [← h255.out]; rfl, Below.refl _ _⟩
theorem er2_fun (g : Nat) (w0 : World) (n : Nat) : Fun2 g w0 (.func (.func 66) #[] #[]) n erT := by
  refine ⟨_, _, rfl, Try.call66, fun w _ i x b _ => ?_⟩
  have hb := b.toNat_lt
  by_cases h : b.toNat % 2 = 1
  · have h255 : Hid ((255 : Int) = ((erT i x b).toNat : Int)) := by unfold Hid erT; rw [if_pos h]; rfl
    have hm : (b.toNat : Int).tmod 2 = 1 := by rw [Int.tmod_eq_emod_of_nonneg (by omega)]; omega
    have hm2 : (b.toNat : Int) % 2 = 1 := by omega
    clear h
    go_enter Try.func66, Try.ntmps66
    go_wp2
    go_ret
    exact ⟨by rw [← h255.out]; rfl, rfl⟩
  · have h255 : Hid (erT i x b = x) := by unfold Hid erT; rw [if_neg h]
    have hm : (b.toNat : Int).tmod 2 = 0 := by rw [Int.tmod_eq_emod_of_nonneg (by omega)]; omega
    have hm2 : (b.toNat : Int) % 2 = 0 := by omega
    clear h
    go_enter Try.func66, Try.ntmps66
    go_wp2
    go_ret
    exact ⟨by rw [h255.out]; rfl, rfl⟩
theorem pr1_fun (g b : Nat) (w0 : World) (s : ByteArray) (hb : Arr w0 b 9 #[.string s]) (hne : b ≠ g) (n : Nat) (hn : n ≤ s.size) : Fun1 g w0 (.func (.func 68) #[] #[.pointer (some ⟨b, 0, none⟩)]) n (prF s) := by
  refine ⟨_, _, rfl, Try.call68, fun w hw i x hi => ?_⟩
  have hc : w.cell? ⟨b, 0, none⟩ = some (.string s) := (hb.grown hw (fun e => hne (by injection e))).cell 0
  have his : i < s.size := by omega
  have hI : (i : Int) < s.size := by omega
  have hand := b_and x s[i]
  have HF : Hid (prF s i x = x &&& s[i]) := by unfold Hid prF; rw [bs_get his]
  clear hb hn
  go_enter Try.func68, Try.ntmps68
  go_wp2
  go_ret
  exact ⟨by rw [HF.out]; rfl, Below.refl _ _⟩
theorem pr2_fun (g b : Nat) (w0 : World) (s : ByteArray) (hb : Arr w0 b 9 #[.string s]) (hne : b ≠ g) (n : Nat) (hn : n ≤ s.size) : Fun2 g w0 (.func (.func 69) #[] #[.pointer (some ⟨b, 0, none⟩)]) n (prT s) := by
  refine ⟨_, _, rfl, Try.call69, fun w hw i x y hi => ?_⟩
  have hc : w.cell? ⟨b, 0, none⟩ = some (.string s) := (hb.grown hw (fun e => hne (by injection e))).cell 0
  have his : i < s.size := by omega
  have hI : (i : Int) < s.size := by omega
  have hor := b_or s[i] y
  have hand := b_and x (s[i] ||| y)
  have HF : Hid (prT s i x y = x &&& (s[i] ||| y)) := by unfold Hid prT; rw [bs_get his]
  generalize (s[i] ||| y) = z at *
  clear hb hn
  go_enter Try.func69, Try.ntmps69
  go_wp2
  go_ret
  exact ⟨by rw [HF.out]; rfl, rfl⟩
/-- The function that blow hands down. -/
theorem bl_fun (g bt bs : Nat) (w0 : World) (v : Value) (t : ByteArray) (T : Nat → UInt8 → UInt8 → UInt8) (n : Nat) (hv : Fun2 g w0 v n T) (ft : TypeId) (hbt : Arr w0 bt ft #[v]) (hbs : Arr w0 bs 9 #[.string t]) (hne : bt ≠ g) (hne2 : bs ≠ g) (h0 : 0 < t.size) :
    Fun1 g w0 (.func (.func 72) #[] #[.pointer (some ⟨bt, 0, none⟩), .pointer (some ⟨bs, 0, none⟩)]) n (fun i x => T i x (cyc t i)) := by
  refine ⟨_, _, rfl, Try.call72, fun w hw i x hi => ?_⟩
  obtain ⟨f, caps, rfl, hcf, hcl⟩ := hv
  have hc : w.cell? ⟨bt, 0, none⟩ = some (.func (.func f) #[] caps) := (hbt.grown hw (fun e => hne (by injection e))).cell 0
  have hc2 : w.cell? ⟨bs, 0, none⟩ = some (.string t) := (hbs.grown hw (fun e => hne2 (by injection e))).cell 0
  obtain ⟨m, hm⟩ : ∃ m, i % t.size = m := ⟨_, rfl⟩
  have hm2 : m < t.size := by rw [← hm]; exact Nat.mod_lt _ h0
  have hmi : (i : Int).tmod t.size = (m : Int) := by rw [Int.tmod_eq_emod_of_nonneg (by omega), ← hm]; simp
  have hmI : (m : Int) < t.size := by omega
  have HT : Hid (cyc t i = t[m]) := by unfold Hid cyc; rw [hm, bs_get hm2]
  have HQ : Hid (∀ k, Calls Try.prog f (#[.int .i64 (i : Int), .int .u8 (x.toNat : Int), .int .u8 (t[m].toNat : Int)] ++ caps) (w.drewN k) fun e w' => e = .returned (.int .u8 ((T i x t[m]).toNat : Int)) ∧ ∃ m, w' = w.drewN m) := by
    intro k
    refine (hcl (w.drewN k) (grown_trans hw (grown_below (below_drewN w k))) i x t[m] hi).mono ?_
    rintro e w' ⟨he, hw'⟩
    exact ⟨he, k, hw'.symm⟩
  have hts : ¬ ((t.size : Int) = 0) := by omega
  show Calls _ _ _ _ fun e w' => e = .returned (.int .u8 ((T i x (cyc t i)).toNat : Int)) ∧ Below w.heap.size w w'
  rw [HT.out]
  clear hm hcl hbt hbs
  go_enter Try.func72, Try.ntmps72
  go_wp2
  go_quiet (exact HQ.out _)
  go_wp2
  go_ret
  exact ⟨rfl, below_drewN _ _⟩
end Go.Proofs.Ytidnbpehhpakcaa
