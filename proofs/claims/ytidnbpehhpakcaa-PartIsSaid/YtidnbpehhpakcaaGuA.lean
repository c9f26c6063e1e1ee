/- A Guard of package guard in memory, and what exists, shield and all return. Conditions: all: a slice that reads as numbers. -/
import Derived.Test.YtidnbpehhpakcaaGuPlain
import Derived.Deep.QuietTactic
import Derived.BigQuiet
import Derived.Deep.RegionHeld3
namespace Go.Proofs.Ytidnbpehhpakcaa
open Go.RowKit

/-- The slice at A reads as the numbers l, in blocks below B. -/
def RdI (B : Nat) (w : World) (A : Option Addr) (l : List Int) : Prop :=
  l = [] ∨ ∃ b off, A = some ⟨b, off, none⟩ ∧ b < B ∧ ∀ k, k < l.length → w.cell? ⟨b, off + k, none⟩ = some (.int .i64 (l.getD k 0))
theorem RdI.at_ {B : Nat} {w : World} {A : Option Addr} {l : List Int} (h : RdI B w A l) {k : Nat} (hk : k < l.length) :
    ∃ b off x, A = some ⟨b, off, none⟩ ∧ b < B ∧ w.cell? ⟨b, off + k, none⟩ = some (.int .i64 x) ∧ Hid (l.getD k 0 = x) := by
  rcases h with rfl | ⟨b, off, rfl, hb, hc⟩
  · simp at hk
  · exact ⟨b, off, _, rfl, hb, hc k hk, rfl⟩
theorem RdI.below {B : Nat} {w w' : World} {A : Option Addr} {l : List Int} (h : RdI B w A l) (hb : Below B w w') : RdI B w' A l := by
  rcases h with h | ⟨b, off, rfl, hlt, hc⟩
  · exact .inl h
  · exact .inr ⟨b, off, rfl, hlt, fun k hk => (hb.cell (p := ⟨b, off + k, none⟩) hlt).trans (hc k hk)⟩
theorem RdI.mono {B B' : Nat} {w : World} {A : Option Addr} {l : List Int} (h : RdI B w A l) (hB : B ≤ B') : RdI B' w A l := by
  rcases h with h | ⟨b, off, rfl, hlt, hc⟩
  · exact .inl h
  · exact .inr ⟨b, off, rfl, by omega, hc⟩
theorem RdI.below' {B C : Nat} {w w' : World} {A : Option Addr} {l : List Int} (h : RdI B w A l) (hb : Below C w w') (hC : B ≤ C) : RdI B w' A l := h.below (hb.mono hC)
theorem RdI.grown {B g : Nat} {w w' : World} {A : Option Addr} {l : List Int} (h : RdI B w A l) (hg : w.grownBy w' (some g)) (hB : B ≤ g) (hz : B ≤ w.heap.size) : RdI B w' A l :=
  h.below (below_grown (Below.refl B w) hg hB hz)

/-- The cells of a Guard, and of what is in it. -/
def lockC (p : Option Addr) (K : List Bool) : Array Value := (Value.pointer p :: K.map Value.bool).toArray
theorem lockC_size (p : Option Addr) (K : List Bool) : (lockC p K).size = K.length + 1 := by simp [lockC]
theorem lockC_one (p : Option Addr) (K : List Bool) : (lockC p K).all (·.oneCell') = true := by
  rw [Array.all_eq_true_iff_forall_mem]
  intro v hv
  simp [lockC] at hv
  rcases hv with rfl | ⟨_, rfl⟩ | ⟨_, rfl⟩ <;> rfl
section
variable {w : World} {g t : Nat} {p : Option Addr} {K : List Bool}
theorem lock_chip (h : Arr w g t (lockC p K)) : w.cell? ⟨g, 0, none⟩ = some (.pointer p) := by rw [h.cell]; rfl
theorem lock_at (h : Arr w g t (lockC p K)) {j : Nat} (hj : j < K.length) : w.cell? ⟨g, 1 + j, none⟩ = some (.bool (K.getD j false)) := by
  rw [h.cell]
  unfold lockC
  rw [List.getElem?_toArray, Nat.add_comm, List.getElem?_cons_succ]
  simp [List.getD, hj]
theorem lock_set (h : Arr w g t (lockC p K)) (j : Nat) (b : Bool) : Arr (w.setCell ⟨g, 1 + j, none⟩ (.bool b)) g t (lockC p (K.set j b)) := by
  have := h.put (1 + j) (.bool b)
  rwa [show (lockC p K).setIfInBounds (1 + j) (.bool b) = lockC p (K.set j b) by
    unfold lockC; apply Array.ext'; rw [Nat.add_comm]; simp [List.map_set]] at this
end
theorem infoS (p : Option Addr) (K : List Bool) (hK : K.length = 48) : (Try.prog.info? 78).map (·.size) = some (lockC p K).size := by rw [lockC_size, hK]; kernel_rfl
theorem infoG (p : Option Addr) (K : List Bool) (hK : K.length = 48) : (Try.prog.info? 80).map (·.size) = some (lockC p K).size := by rw [lockC_size, hK]; kernel_rfl

theorem exists_any (x : Int) (w : World) : Calls Try.prog 33 #[.int .i64 x] w fun e w' => e = .returned (.bool (isS x)) ∧ w = w' := by
  by_cases h1 : 0 ≤ x
  · have hd1 : decide (0 ≤ x) = true := decide_eq_true h1
    have ht : Hid (isS x = decide (x < 48)) := by unfold Hid isS; simp [h1]
    go_enter Try.func33, Try.ntmps33
    go_wp2
    go_ret
    exact ⟨by rw [ht.out]; rfl, rfl⟩
  · have hd1 : decide (0 ≤ x) = false := decide_eq_false h1
    have ht : Hid (isS x = false) := by unfold Hid isS; simp [h1]
    go_enter Try.func33, Try.ntmps33
    go_wp2
    go_ret
    exact ⟨by rw [ht.out]; rfl, rfl⟩
/-- The pointer q is a Guard of the flash at p, with these locks; or nil, which is one of none. -/
def GD (w : World) (q p : Option Addr) (K : List Bool) : Prop :=
  K.length = 48 ∧ ((q = none ∧ p = none ∧ K = List.replicate 48 false) ∨ ∃ g, q = some ⟨g, 0, none⟩ ∧ Arr w g 80 (lockC p K))
theorem GD.below {w w' : World} {q p : Option Addr} {K : List Bool} (h : GD w q p K) (hb : Below w.heap.size w w') : GD w' q p K := by
  obtain ⟨h1, h2 | ⟨g, h2, h3⟩⟩ := h
  · exact ⟨h1, .inl h2⟩
  · exact ⟨h1, .inr ⟨g, h2, h3.below hb h3.lt⟩⟩
set_option maxHeartbeats 3200000 in
set_option maxRecDepth 100000 in
theorem shield_any (q p : Option Addr) (K : List Bool) (w : World) (h : GD w q p K) : Calls Try.prog 41 #[.pointer q] w fun e w' => e = .returned (.agg (lockC p K)) ∧ Below w.heap.size w w' := by
  obtain ⟨hK, ⟨rfl, rfl, rfl⟩ | ⟨g, rfl, hA⟩⟩ := h
  · clear hK
    go_enter Try.func41, Try.ntmps41
    go_wp2_with (refine wpList_store_row rfl 78 (.tmp 2) (.tmp 5) rfl w.heap.size (lockC none (List.replicate 48 false)) rfl rfl _ _ (Arr.new _ _ _) (infoS _ _ rfl) rfl (lockC_one _ _) ?_)
    exact bodyPost_ret (v := .agg (lockC none (List.replicate 48 false))) (results_cell_row rfl _ _ w.heap.size _ _ _ _ rfl ((Arr.new _ _ _).row _) Try.underlying78 rfl (infoS _ _ rfl)) rfl ⟨rfl, below_setRow ((Below.refl _ _).alloc (Nat.le_refl _) _) (Nat.le_refl _) _⟩
  · have HI := Lib.hid (infoS p K hK)
    have HZ := Lib.hid (lockC_size p K)
    have HK := Lib.hid hK
    have HA := Lib.hid hA
    have hlt := hA.lt
    clear hA hK
    go_enter Try.func41, Try.ntmps41
    go_wp2_with (first | (refine wpList_load_row rfl 78 (.tmp 8) rfl g rfl _ _ _ _ (HA.out.alloc _) Try.underlying78 rfl HI.out ?_) | (refine wpList_store_row rfl 78 (.tmp 2) (.tmp 9) rfl w.heap.size (lockC p K) rfl rfl _ _ (Arr.new _ _ _) HI.out (by rw [HZ.out, HK.out]; rfl) (lockC_one _ _) ?_))
    exact bodyPost_ret (v := .agg (lockC p K)) (results_cell_row rfl _ _ w.heap.size _ _ _ _ rfl ((Arr.new _ _ _).row _) Try.underlying78 rfl HI.out) rfl ⟨rfl, below_setRow ((Below.refl _ _).alloc (Nat.le_refl _) _) (Nat.le_refl _) _⟩

set_option maxHeartbeats 3200000 in
set_option maxRecDepth 100000 in
theorem all_any (p : Option Addr) (K : List Bool) (A : Option Addr) (cap : Nat) (L : List Int) (w : World) (hK : K.length = 48) (hl : L.length ≤ maxLen) (hr : RdI w.heap.size w A L) :
    Calls Try.prog 59 #[.agg (lockC p K), .slice A L.length cap] w fun e w' => e = .returned (.bool (allK K L)) ∧ Below w.heap.size w w' := by
  have hl2 : L.length ≤ 9223372036854775807 := by unfold maxLen at hl; omega
  have HA := Lib.hid (Arr.new w 78 (lockC p K))
  have HB := Lib.hid ((Below.refl w.heap.size w).alloc (Nat.le_refl _) (.cells (lockC p K) 78))
  have HR := Lib.hid (hr.below HB.out)
  have HK := Lib.hid hK
  clear hl hr hK
  go_enter Try.func59, Try.ntmps59
  go_wp2
  generalize w.alloc (.cells (lockC p K) 78) = W at *
  go_loopw [9] (fun i wr => ∃ k : Nat, k ≤ L.length ∧ i = .int .i64 k ∧ (∀ j, j < k → inK K (L.getD j 0) = true) ∧ wr = W) (fun i _ => L.length - (intOf i).toNat)
  case atStart => exact ⟨0, Nat.zero_le _, rfl, fun _ h => absurd h (Nat.not_lt_zero _), rfl⟩
  case round =>
    obtain ⟨k, hk, rfl, hall, rfl⟩ := hrel
    have HALL := Lib.hid hall
    clear hall
    by_cases hlt : k < L.length
    · have hd1 : decide ((k : Int) < L.length) = true := decide_eq_true (by omega)
      have hki : (k : Int) < L.length := by omega
      obtain ⟨b, off, x, rfl, hbl, hc, HX⟩ := HR.out.at_ hlt
      go_wp2_with fail
      refine (exists_any x _).mono ?_
      rintro e w1 ⟨rfl, rfl⟩
      by_cases hs : isS x = true
      · have hb := isS_true hs
        obtain ⟨n, rfl⟩ := Int.eq_ofNat_of_zero_le hb.1
        have hn : n < 48 := by omega
        have hni : (n : Int) < 48 := by omega
        have hcl := lock_at HA.out (j := n) (by rw [HK.out]; exact hn)
        have HI := Lib.hid (inK_nat K hn)
        rw [hs]
        cases hv : K.getD n false with
        | true =>
          rw [hv] at hcl
          have HN : Hid (∀ j, j < k + 1 → inK K (L.getD j 0) = true) := by
            intro j hj
            by_cases e : j = k
            · subst e; rw [HX.out, HI.out, hv]
            · exact HALL.out j (by omega)
          clear hs hb hv
          go_wp2
          go_roundw
          case rel => exact ⟨k + 1, by omega, by go_num, HN.out, trivial⟩
          case measure => simp [intOf]; omega
        | false =>
          rw [hv] at hcl
          have HN : Hid (allK K L = false) := allK_no K L hlt HX.out (HI.out.trans hv)
          clear hs hb hv
          go_wp2
          go_ret
          exact ⟨by rw [HN.out]; rfl, HB.out⟩
      · have hs' : isS x = false := by simpa using hs
        have HN : Hid (allK K L = false) := allK_no K L hlt HX.out (by unfold inK; rw [hs']; rfl)
        rw [hs']
        clear hs hs'
        go_wp2
        go_ret
        exact ⟨by rw [HN.out]; rfl, HB.out⟩
    · obtain rfl : k = L.length := by omega
      have hd1 : decide ((L.length : Int) < L.length) = false := decide_eq_false (by omega)
      have HN : Hid (allK K L = decide (0 < L.length)) := allK_yes K L HALL.out
      go_wp2
      go_ret
      exact ⟨by rw [HN.out]; rfl, HB.out⟩
end Go.Proofs.Ytidnbpehhpakcaa
