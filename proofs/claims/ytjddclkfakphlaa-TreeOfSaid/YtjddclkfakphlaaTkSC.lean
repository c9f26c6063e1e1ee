/- What the document's Few, Same, Plain and Bare of tokens return. Conditions: slices that read as tokens; Plain: at most 2000 of them. -/

import Derived.Test.YtjddclkfakphlaaApp
import Derived.Test.YtjddclkfakphlaaTkS
import Derived.Test.YtjddclkfakphlaaNumA
import Derived.Laws.ResultCell
import Derived.Deep.RegionWith
import Derived.Deep.WholeRow
import Derived.BigQuiet
namespace Go.Proofs.Ytjddclkfakphlaa
open Go.RowKit

/-- Are there few tokens, of few bytes? -/
def few10 (l : List TK) : Bool := decide (l.length ≤ 60 ∧ ∀ k, k < l.length → (l.getD k tk0).nm.size ≤ 100 ∧ (l.getD k tk0).vl.size ≤ 300)
theorem few10_len {l : List TK} (h : few10 l = true) : l.length ≤ 60 ∧ ∀ k, k < l.length → (l.getD k tk0).nm.size ≤ 100 ∧ (l.getD k tk0).vl.size ≤ 300 := of_decide_eq_true h
set_option maxHeartbeats 800000 in
set_option maxRecDepth 100000 in
theorem rfew10_any (A : Option Addr) (cap : Nat) (l : List TK) (w : World) (hr : RdTk w A l) (hl : l.length ≤ maxLen) :
    Calls Try.prog 20 #[.slice A l.length cap] w fun e w' => e = .returned (.bool (few10 l)) ∧ w = w' := by
  unfold maxLen at hl
  have HR := Lib.hid hr
  have HF1 : Hid (∀ k, k < l.length → (100 < (l.getD k tk0).nm.size ∨ 300 < (l.getD k tk0).vl.size) → few10 l = false) := fun k hk h => decide_eq_false (fun hh => by have := hh.2 k hk; omega)
  have HF2 : Hid (60 < l.length → few10 l = false) := fun h => decide_eq_false (fun hh => by omega)
  have HF3 : Hid (l.length ≤ 60 → (∀ k, k < l.length → (l.getD k tk0).nm.size ≤ 100 ∧ (l.getD k tk0).vl.size ≤ 300) → few10 l = true) := fun h1 h2 => decide_eq_true ⟨h1, h2⟩
  generalize few10 l = R at *
  clear hr
  go_enter Try.func20, Try.ntmps20
  go_wp2
  go_loop [3] (fun i => ∃ k : Nat, k ≤ l.length ∧ k ≤ 60 ∧ i = .int .i64 k ∧ Hid (∀ j, j < k → (l.getD j tk0).nm.size ≤ 100 ∧ (l.getD j tk0).vl.size ≤ 300)) (fun i => l.length - (intOf i).toNat)
  case atStart => exact ⟨0, Nat.zero_le _, by omega, rfl, fun j h => absurd h (by omega)⟩
  case round =>
    obtain ⟨k, hk, hk40, rfl, HK⟩ := hrel
    by_cases hlt : k < l.length
    · have hd1 : decide ((k : Int) < l.length) = true := decide_eq_true (by omega)
      have hki : (k : Int) < l.length := by omega
      by_cases h40 : k < 60
      · obtain ⟨b, off, x, rfl, ⟨hc0, hc1, hc2⟩, HX⟩ := HR.out.at_ hlt
        have hd2 : decide ((k : Int) < 60) = true := decide_eq_true (by omega)
        obtain ⟨kd, nm, vl⟩ := x
        simp only at hc0 hc1 hc2
        by_cases h100 : nm.size ≤ 100
        · have hd : decide ((100 : Int) < nm.size) = false := decide_eq_false (by omega)
          by_cases h300 : vl.size ≤ 300
          · have hd3 : decide ((300 : Int) < vl.size) = false := decide_eq_false (by omega)
            have HK1 : Hid (∀ j, j < k + 1 → (l.getD j tk0).nm.size ≤ 100 ∧ (l.getD j tk0).vl.size ≤ 300) := fun j hj => by
              by_cases e : j = k
              · subst e; rw [HX.out]; exact ⟨h100, h300⟩
              · exact HK.out j (by omega)
            clear HX
            go_wp2
            go_round
            case rel => exact ⟨k + 1, by omega, by omega, by go_num, HK1⟩
            case measure => simp [intOf]; omega
          · have hd3 : decide ((300 : Int) < vl.size) = true := decide_eq_true (by omega)
            have HE := Lib.hid (HF1.out k hlt (by rw [HX.out]; right; show 300 < vl.size; omega))
            clear HX
            go_wp2
            go_ret
            exact ⟨by rw [HE.out]; rfl, rfl⟩
        · have hd : decide ((100 : Int) < nm.size) = true := decide_eq_true (by omega)
          have HE := Lib.hid (HF1.out k hlt (by rw [HX.out]; left; show 100 < nm.size; omega))
          clear HX
          go_wp2
          go_ret
          exact ⟨by rw [HE.out]; rfl, rfl⟩
      · have hd2 : decide ((k : Int) < 60) = false := decide_eq_false (by omega)
        have hd3 : decide ((l.length : Int) ≤ 60) = false := decide_eq_false (by omega)
        have HE := Lib.hid (HF2.out (by omega))
        go_wp2
        go_ret
        exact ⟨by rw [HE.out]; rfl, rfl⟩
    · obtain rfl : k = l.length := by omega
      have hd1 : decide ((l.length : Int) < l.length) = false := decide_eq_false (by omega)
      have hd3 : decide ((l.length : Int) ≤ 60) = true := decide_eq_true (by omega)
      have HE := Lib.hid (HF3.out hk40 HK.out)
      go_wp2
      go_ret
      exact ⟨by rw [HE.out]; rfl, rfl⟩

set_option maxHeartbeats 800000 in
set_option maxRecDepth 100000 in
theorem sameTk_any (A A' : Option Addr) (cap cap' : Nat) (l : List TK) (w : World) (hl : l.length ≤ 1099511627776) (hr : RdTk w A l) (hr' : RdTk w A' l) :
    Calls Try.prog 9 #[.slice A l.length cap, .slice A' l.length cap'] w fun e w' => e = .returned (.bool true) ∧ Below w.heap.size w w' := by
  have HR := Lib.hid hr
  have HR' := Lib.hid hr'
  clear hr hr'
  go_enter Try.func9, Try.ntmps9
  go_wp2
  go_loopw [5] (fun i wr => ∃ k : Nat, k ≤ l.length ∧ i = .int .i64 k ∧ Below w.heap.size w wr) (fun i _ => l.length - (intOf i).toNat)
  case atStart => exact ⟨0, Nat.zero_le _, rfl, Below.refl _ _⟩
  case round =>
    obtain ⟨k, hk, rfl, hb⟩ := hrel
    have hsz := hb.size
    have HB := Lib.hid hb
    clear hb
    by_cases hlt : k < l.length
    · have hki : (k : Int) < l.length := by omega
      obtain ⟨b, off, x, rfl, ⟨h1, h2, h3⟩, HX⟩ := (HR.out.below HB.out).at_ hlt
      obtain ⟨b', off', x', rfl, ⟨g1, g2, g3⟩, HX'⟩ := (HR'.out.below HB.out).at_ hlt
      obtain rfl : x = x' := HX.out.symm.trans HX'.out
      obtain ⟨kd, nm, vl⟩ := x
      simp only at h1 h2 h3 g1 g2 g3
      go_wp2
      go_quiet (fail)
      have hb2 : Below w.heap.size w (wr.drewN nq) := HB.out.trans ((below_drewN _ _).mono hsz)
      go_wp2
      go_roundw
      case rel => exact ⟨k + 1, by omega, by go_num, hb2⟩
      case measure => simp [intOf]; omega
    · obtain rfl : k = l.length := by omega
      go_wp2
      go_ret
      exact ⟨rfl, HB.out⟩

theorem plain_snoc (l : List TK) {k : Nat} (hk : k < l.length) {x : TK} (hx : l.getD k tk0 = x) : plainR (l.take (k + 1)) = if x.kd = 4 then plainR (l.take k) else plainR (l.take k) ++ [x] := by
  have e : l.take (k + 1) = l.take k ++ [x] := by
    rw [List.take_succ_eq_append_getElem hk, ← hx, List.getD_eq_getElem?_getD, List.getElem?_eq_getElem hk]; rfl
  rw [e]
  unfold plainR
  rw [List.filter_append]
  by_cases h : x.kd = 4 <;> simp [h]
theorem plain_len (l : List TK) : (plainR l).length ≤ l.length := List.length_filter_le _ _
set_option maxHeartbeats 1600000 in
set_option maxRecDepth 100000 in
theorem rbare_any (x : TK) (w : World) : Calls Try.prog 23 #[tkV x] w fun e w' => e = .returned (tkV (bare x)) ∧ Below w.heap.size w w' := by
  have HAX : Hid (Arr ((w.alloc (.cells (tkC x) 46)).alloc (.cells (tkC tk0) 46)) w.heap.size 46 (tkC x)) := (Arr.new w _ _).alloc _
  have HAR : Hid (Arr ((w.alloc (.cells (tkC x) 46)).alloc (.cells (tkC tk0) 46)) (w.heap.size + 1) 46 (tkC tk0)) := Arr.new1 w _ _ _
  have HB : Hid (Below w.heap.size w ((w.alloc (.cells (tkC x) 46)).alloc (.cells (tkC tk0) 46))) := ((Below.refl _ _).alloc (Nat.le_refl _) _).alloc (by rw [sz_alloc]; omega) _
  obtain ⟨kd, nm, vl⟩ := x
  by_cases h1 : kd = 1
  · subst h1
    have HE : Hid (bare ⟨1, nm, vl⟩ = ⟨1, nm, ByteArray.empty⟩) := rfl
    rw [HE.out]
    show Calls Try.prog _ #[.agg #[.int .i64 1, .string nm, .string vl]] w _
    go_enter Try.func23, Try.ntmps23
    go_wp2_with (refine wpList_store_row rfl 46 (.tmp 2) (.tmp 11) rfl (w.heap.size + 1) (tkC ⟨1, nm, ByteArray.empty⟩) rfl rfl _ _ HAR.out (infoTk _) rfl (tkC_one _) ?_)
    exact bodyPost_ret (v := tkV ⟨1, nm, ByteArray.empty⟩) (results_cell_row rfl _ _ (w.heap.size + 1) _ (tkC ⟨1, nm, ByteArray.empty⟩) _ _ rfl (HAR.out.row _) Try.underlying46 rfl (infoTk _)) rfl ⟨rfl, below_setRow HB.out (Nat.le_succ _) _⟩
  · have d1 : (kd == 1) = false := by simpa using h1
    by_cases h3 : kd = 3
    · subst h3
      have HE : Hid (bare ⟨3, nm, vl⟩ = ⟨3, nm, vl⟩) := rfl
      rw [HE.out]
      show Calls Try.prog _ #[.agg #[.int .i64 3, .string nm, .string vl]] w _
      go_enter Try.func23, Try.ntmps23
      go_wp2_with (first | (refine wpList_load_row rfl 46 (.tmp 1) rfl w.heap.size rfl _ (tkC ⟨3, nm, vl⟩) _ _ HAX.out Try.underlying46 rfl (infoTk _) ?_) | (refine wpList_store_row rfl 46 (.tmp 2) (.tmp 14) rfl (w.heap.size + 1) (tkC ⟨3, nm, vl⟩) rfl rfl _ _ HAR.out (infoTk _) rfl (tkC_one _) ?_))
      exact bodyPost_ret (v := tkV ⟨3, nm, vl⟩) (results_cell_row rfl _ _ (w.heap.size + 1) _ (tkC ⟨3, nm, vl⟩) _ _ rfl (HAR.out.row _) Try.underlying46 rfl (infoTk _)) rfl ⟨rfl, below_setRow HB.out (Nat.le_succ _) _⟩
    · have d3 : (kd == 3) = false := by simpa using h3
      have HE : Hid (bare ⟨kd, nm, vl⟩ = ⟨kd, ByteArray.empty, ByteArray.empty⟩) := by unfold Hid bare; rw [if_neg h1, if_neg h3]
      clear h1 h3
      rw [HE.out]
      show Calls Try.prog _ #[.agg #[.int .i64 kd, .string nm, .string vl]] w _
      go_enter Try.func23, Try.ntmps23
      go_wp2_with (refine wpList_store_row rfl 46 (.tmp 2) (.tmp 17) rfl (w.heap.size + 1) (tkC ⟨kd, ByteArray.empty, ByteArray.empty⟩) rfl rfl _ _ HAR.out (infoTk _) rfl (tkC_one _) ?_)
      exact bodyPost_ret (v := tkV ⟨kd, ByteArray.empty, ByteArray.empty⟩) (results_cell_row rfl _ _ (w.heap.size + 1) _ (tkC ⟨kd, ByteArray.empty, ByteArray.empty⟩) _ _ rfl (HAR.out.row _) Try.underlying46 rfl (infoTk _)) rfl ⟨rfl, below_setRow HB.out (Nat.le_succ _) _⟩
end Go.Proofs.Ytjddclkfakphlaa
