/- What the reader's step kind does, and advance over any steps that are a reader's own methods. Conditions: strings of at most 2^40 bytes. -/
import Derived.Test.YtgfdbmbgldeljaaGreatMg39
namespace Go.Proofs.YtgfdbmbgldeljaaGreat
open Go.RowKit

theorem Rdr.zero {w : World} {g : Nat} {s t : ByteArray} {kd : Int} {nm vl : ByteArray} {sz pl : Int} (h : Rdr w g s t kd nm vl sz pl) : Rdr (w.setCells g 2 (tkC tk0).toList) g s t 0 ByteArray.empty ByteArray.empty sz pl ∧ w.grownBy (w.setCells g 2 (tkC tk0).toList) (some g) :=
  ⟨((Arr.put h 2 (.int .i64 0)).put 3 (.string ByteArray.empty)).put 4 (.string ByteArray.empty), World.grownBy.trans (gr_cell w g 2 _) (World.grownBy.trans (gr_cell _ g 3 _) (gr_cell _ g 4 _))⟩
theorem Rdr.there {w : World} {g : Nat} {s t : ByteArray} {kd : Int} {nm vl : ByteArray} {sz pl : Int} (h : Rdr w g s t kd nm vl sz pl) : w.there g 2 (tkC tk0).size := by
  intro j hj
  have h3 : j < 3 := hj
  refine ⟨?_, Arr.frozen h _⟩
  rw [Arr.cell h]
  match j, h3 with
  | 0, _ => rfl
  | 1, _ => rfl
  | 2, _ => rfl

set_option maxHeartbeats 800000 in
set_option maxRecDepth 100000 in
theorem kind_any (g : Nat) (s t : ByteArray) (kd : Int) (nm vl : ByteArray) (sz pl : Int) (a : Nat) (w : World) (hA : Rdr w g s t kd nm vl sz pl) (ha : a ≤ s.size) (hm : s.size ≤ 1099511627776) :
    Calls Tryz.prog 75 #[.pointer (some ⟨g, 0, none⟩), .int .i64 (a : Int)] w fun e w' => ((s.size < a + 4 → e = .returned (.tuple #[.int .i64 0, .int .i64 14]) ∧ Rdr w' g s t 0 ByteArray.empty ByteArray.empty sz pl) ∧
      (a + 4 ≤ s.size → e = .returned (.tuple #[.int .i64 ((a + 4 : Nat) : Int), .int .i64 0]) ∧ Rdr w' g s t (frombig (s.data.toList.drop a)) ByteArray.empty ByteArray.empty sz pl)) ∧ w.grownBy w' (some g) := by
  have HT := Lib.hid hA.there
  have HZ := Lib.hid hA.zero
  have HB := Lib.hid (Below.refl w.heap.size w)
  by_cases h : s.size < a + 4
  · have HN := Lib.hid (number_no g _ s a (some ⟨g, 2, none⟩) (w.setCells g 2 (tkC tk0).toList) HZ.out.1 rfl ha h)
    clear hA
    go_enter Tryz.func75, Tryz.ntmps75
    go_wp2_with (first
      | (refine wpList_store_mid rfl 88 (.tmp 9) (.tmp 7) rfl g 2 (tkC tk0) rfl rfl HT.out (infoTk _) (tkC_one _) ?_; generalize w.setCells g 2 (tkC tk0).toList = w1 at *)
      | fail)
    refine HN.out.mono ?_
    rintro e w2 ⟨rfl, rfl⟩
    go_wp2
    go_ret2
    exact ⟨⟨fun _ => ⟨rfl, HZ.out.1⟩, fun h2 => absurd h2 (by omega)⟩, HZ.out.2⟩
  · have HN := Lib.hid (number_yes g _ s a 2 _ (w.setCells g 2 (tkC tk0).toList) HZ.out.1 rfl rfl hm (by omega))
    generalize frombig (s.data.toList.drop a) = n at *
    clear hA
    go_enter Tryz.func75, Tryz.ntmps75
    go_wp2_with (first
      | (refine wpList_store_mid rfl 88 (.tmp 9) (.tmp 7) rfl g 2 (tkC tk0) rfl rfl HT.out (infoTk _) (tkC_one _) ?_; generalize w.setCells g 2 (tkC tk0).toList = w1 at *)
      | fail)
    refine HN.out.mono ?_
    rintro e w2 ⟨rfl, h1, h2⟩
    have H1 := Lib.hid h1
    have H2 := Lib.hid (World.grownBy.trans HZ.out.2 h2)
    clear h1 h2 HN
    go_wp2
    go_ret2
    exact ⟨⟨fun h2 => absurd h2 (by omega), fun _ => ⟨by simp, H1.out⟩⟩, H2.out⟩

set_option maxHeartbeats 1600000 in
set_option maxRecDepth 100000 in
theorem advance_any (g b : Nat) (fs : List Nat) (cap : Nat) (I : Nat → Int → World → Prop) (Q : Int → Nat → World → Prop) (a0 : Int) (w : World) (hbg : b ≠ g)
    (hb : ∀ k, k < fs.length → w.cell? ⟨b, k, none⟩ = some (.func (.func (fs.getD k 0)) #[.pointer (some ⟨g, 0, none⟩)] #[])) (hbl : b < w.heap.size) (hlen : fs.length ≤ 8)
    (hcf : ∀ k, k < fs.length → ∀ (args : Array Value) (W : World), (callFunc (fs.getD k 0) args).run Tryz.prog W = .ok (.enter (fs.getD k 0) args) W)
    (h0 : I 0 a0 w)
    (hst : ∀ k, k < fs.length → ∀ a W, I k a W → Calls Tryz.prog (fs.getD k 0) #[.pointer (some ⟨g, 0, none⟩), .int .i64 a] W fun e W' => ∃ (nx : Int) (er : Nat), e = .returned (.tuple #[.int .i64 nx, .int .i64 (er : Int)]) ∧ W.grownBy W' (some g) ∧ (er = 0 → I (k + 1) nx W') ∧ (er ≠ 0 → Q 0 er W'))
    (hen : ∀ a W, I fs.length a W → Q a 0 W) :
    Calls Tryz.prog 74 #[.int .i64 a0, .slice (some ⟨b, 0, none⟩) fs.length cap] w fun e w' => ∃ (nx : Int) (er : Nat), e = .returned (.tuple #[.int .i64 nx, .int .i64 (er : Int)]) ∧ w.grownBy w' (some g) ∧ Q nx er w' := by
  have HI0 := Lib.hid h0
  have HST := Lib.hid hst
  have HEN := Lib.hid hen
  have HCF := Lib.hid hcf
  have HCELL : Hid (∀ k, k < fs.length → ∀ W, w.grownBy W (some g) → W.cell? ⟨b, k, none⟩ = some (.func (.func (fs.getD k 0)) #[.pointer (some ⟨g, 0, none⟩)] #[])) := fun k hk W hg => by
    rw [World.cell?_of_block (a := ⟨b, k, none⟩) (hg.block b hbl (fun e => hbg (Option.some.inj e)))]
    exact hb k hk
  clear h0 hst hen hcf hb
  go_enter Tryz.func74, Tryz.ntmps74
  go_wp2
  go_loopw [0, 12] (fun av i wr => ∃ (k : Nat) (a : Int), k ≤ fs.length ∧ av = .int .i64 a ∧ i = .int .i64 k ∧ w.grownBy wr (some g) ∧ Hid (I k a wr)) (fun _ i _ => fs.length - (intOf i).toNat)
  case atStart => exact ⟨0, a0, Nat.zero_le _, rfl, rfl, gr_below (Below.refl _ _), HI0⟩
  case round =>
    clear HI0
    obtain ⟨k, a, hk, rfl, rfl, hg, HIK⟩ := hrel
    by_cases hlt : k < fs.length
    · have hki : (k : Int) < fs.length := by omega
      have hc := HCELL.out k hlt wr hg
      have hcf := HCF.out k hlt
      have HC := Lib.hid (HST.out k hlt a wr HIK.out)
      have HG := Lib.hid hg
      clear HCELL HCF HST HEN hg
      generalize fs.getD k 0 = F at *
      go_wp2_with fail
      refine HC.out.mono ?_
      rintro e w1 ⟨nx, er, rfl, hg1, hI, hQ⟩
      have HG1 := Lib.hid (World.grownBy.trans HG.out hg1)
      clear hg1 HC HG hc hcf HIK
      by_cases he : er = 0
      · subst he
        have HI1 := Lib.hid (hI rfl)
        clear hI hQ
        go_wp2
        go_roundw
        case rel => exact ⟨k + 1, nx, by omega, rfl, by go_num, HG1.out, HI1⟩
        case measure => simp [intOf]; omega
      · have HQ1 := Lib.hid (hQ he)
        have d0 : ((er : Int) != 0) = true := by simp; omega
        clear hI hQ
        go_wp2
        go_ret2
        exact ⟨0, er, rfl, HG1.out, HQ1.out⟩
    · obtain rfl : k = fs.length := by omega
      have HQ := Lib.hid (HEN.out a wr HIK.out)
      have HG := Lib.hid hg
      clear HIK HEN HST HCF HCELL hg
      go_wp2
      go_ret2
      exact ⟨a, 0, rfl, HG.out, HQ.out⟩
end Go.Proofs.YtgfdbmbgldeljaaGreat
