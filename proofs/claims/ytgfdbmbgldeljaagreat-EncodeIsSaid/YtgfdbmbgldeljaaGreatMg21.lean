/- The document's Tree of layer 14. Conditions: strings of at most 2^40 bytes. -/
import Derived.Test.YtgfdbmbgldeljaaGreatMg16
import Derived.Test.YtgfdbmbgldeljaaGreatMg17
import Derived.Test.YtgfdbmbgldeljaaGreatMg12
import Derived.Test.YtgfdbmbgldeljaaGreatMg18
import Derived.Test.YtgfdbmbgldeljaaGreatMg20
import Derived.Test.YtgfdbmbgldeljaaGreatMg19
namespace Go.Proofs.YtgfdbmbgldeljaaGreat
open Go.RowKit

theorem rdSp_row {w : World} {A : Option Addr} {L : List SP} {B g : Nat} {cs : Array Value} (h : RdSp w A L) (hf : SpFar B A L) (hg : g < B) : RdSp (w.setRow g cs) A L := by
  rcases h with h | ⟨b, off, rfl, hc⟩
  · exact .inl h
  · rcases hf with h | ⟨b', off', e, hb⟩
    · exact .inl h
    · injection e with e
      injection e with e1 e2
      subst e1
      refine .inr ⟨b, off, rfl, fun k hk => ?_⟩
      obtain ⟨h1, h2⟩ := hc k hk
      have hlt : b < w.heap.size := World.block_lt_of_cell? w _ h1
      have e : ∀ j, (w.setRow g cs).cell? ⟨b, j, none⟩ = w.cell? ⟨b, j, none⟩ := fun j => World.cell?_of_block (a := ⟨b, j, none⟩) ((moved_setRow w g cs).block b hlt (fun he => by omega))
      exact ⟨by rw [e]; exact h1, by rw [e]; exact h2⟩
/-- A tree's cells: the root, what is reserved, the processor. -/
abbrev dtC (nm : ByteArray) (v2 v3 r : Value) (b : Int) : Array Value := #[.string nm, v2, v3, r, .int .i64 b]
abbrev hdZ : Array Value := #[.int .i64 0, .int .i64 0, .int .i64 0, .int .i64 0, .int .i64 0, .int .i64 0, .int .i64 0]
abbrev dtZ : Array Value := #[.string ⟨#[]⟩, .slice none 0 0, .slice none 0 0, .slice none 0 0, .int .i64 0]
theorem infoDt (nm : ByteArray) (v2 v3 r : Value) (b : Int) : (Tryz.prog.info? 28).map (·.size) = some (dtC nm v2 v3 r b).size := by
  show _ = some 5
  kernel_rfl
theorem infoDz : (Tryz.prog.info? 28).map (·.size) = some dtZ.size := by
  show _ = some 5
  kernel_rfl
theorem dtZ_one : dtZ.all (·.oneCell') = true := by
  rw [Array.all_eq_true_iff_forall_mem]
  intro v hv
  simp at hv
  rcases hv with rfl | rfl | rfl | rfl | rfl <;> rfl
theorem dtC_one (nm : ByteArray) (v2 v3 r : Value) (b : Int) (h2 : v2.oneCell' = true) (h3 : v3.oneCell' = true) (h4 : r.oneCell' = true) : (dtC nm v2 v3 r b).all (·.oneCell') = true := by
  simp [h2, h3, h4]
  exact ⟨rfl, rfl⟩
/-- The tree T lies in memory. -/
def DtAt (w : World) (T : DT) (v2 v3 : Value) (A : Option Addr) : Prop := NdAt w (fun k => k < w.heap.size) T.rt v2 v3 ∧ RdSp w A T.rs
theorem DtAt.below {w w' : World} {T : DT} {v2 v3 : Value} {A : Option Addr} (h : DtAt w T v2 v3 A) (hb : Below w.heap.size w w') : DtAt w' T v2 v3 A :=
  ⟨(nd_below h.1 hb).mono fun _ hk => Nat.lt_of_lt_of_le hk hb.size, h.2.below hb⟩
theorem dtAt_zero (w : World) : DtAt w dt0 (.slice none 0 0) (.slice none 0 0) none := ⟨nd0_at _ _, .inl rfl⟩

theorem partR_le (s : ByteArray) (a b : Int) {n : Nat} (h : s.size ≤ n) : (partR s a b).1.size ≤ n := by
  unfold partR
  split
  · exact Nat.zero_le _
  · show (s.extract _ _).size ≤ n
    rw [ByteArray.size_extract]; omega

end Go.Proofs.YtgfdbmbgldeljaaGreat

/- The document's Same of layer 14, of two trees that read alike; what package decode must do, said over nothing of its code. Conditions: spans that fit. -/
namespace Go.Proofs.YtgfdbmbgldeljaaGreat
open Go.RowKit

/-- The cells of two trees side by side. -/
theorem dt_cells {w : World} {g : Nat} {nm : ByteArray} {v2 v3 r : Value} {b : Int} (h : Arr w g 28 (dtC nm v2 v3 r b)) :
    w.cell? ⟨g, 0, none⟩ = some (.string nm) ∧ w.cell? ⟨g, 1, none⟩ = some v2 ∧ w.cell? ⟨g, 2, none⟩ = some v3 ∧ w.cell? ⟨g, 3, none⟩ = some r ∧ w.cell? ⟨g, 4, none⟩ = some (.int .i64 b) :=
  ⟨h.cell 0, h.cell 1, h.cell 2, h.cell 3, h.cell 4⟩

set_option maxHeartbeats 1600000 in
set_option maxRecDepth 100000 in
theorem rSameT_any (T : DT) (v2 v3 u2 u3 : Value) (A A' : Option Addr) (cap cap' : Nat) (w : World) (hl : T.rs.length ≤ maxLen) (h : DtAt w T v2 v3 A) (h' : DtAt w T u2 u3 A') :
    Calls Tryz.prog 13 #[.agg (dtC T.rt.nm v2 v3 (.slice A T.rs.length cap) T.bo), .agg (dtC T.rt.nm u2 u3 (.slice A' T.rs.length cap') T.bo)] w fun e w' => e = .returned (.bool true) ∧ Below w.heap.size w w' := by
  obtain ⟨W1, hW1⟩ : ∃ W1, W1 = (w.alloc (.cells (dtC T.rt.nm v2 v3 (.slice A T.rs.length cap) T.bo) 28)).alloc (.cells (dtC T.rt.nm u2 u3 (.slice A' T.rs.length cap') T.bo) 28) := ⟨_, rfl⟩
  obtain ⟨g8, hg8⟩ : ∃ g8, g8 = w.heap.size := ⟨_, rfl⟩
  obtain ⟨g9, hg9⟩ : ∃ g9, g9 = w.heap.size + 1 := ⟨_, rfl⟩
  have hB1 : Below w.heap.size w W1 := by rw [hW1]; exact ((Below.refl _ _).alloc (Nat.le_refl _) _).alloc (by rw [sz_alloc]; omega) _
  have hA8 : Arr W1 g8 28 (dtC T.rt.nm v2 v3 (.slice A T.rs.length cap) T.bo) := by rw [hW1, hg8]; exact (Arr.new w _ _).alloc _
  have hA9 : Arr W1 g9 28 (dtC T.rt.nm u2 u3 (.slice A' T.rs.length cap') T.bo) := by rw [hW1, hg9]; exact Arr.new1 w _ _ _
  have HB1 := Lib.hid hB1
  have H1 := Lib.hid (h.below hB1)
  have H2 := Lib.hid (h'.below hB1)
  have HA8 := Lib.hid hA8
  have HA9 := Lib.hid hA9
  have HC : Hid (∀ W, DtAt W T v2 v3 A → DtAt W T u2 u3 A' → Calls Tryz.prog 34 #[.agg #[.string T.rt.nm, v2, v3], .agg #[.string T.rt.nm, u2, u3]] W fun e w' => e = .returned (.bool true) ∧ Below W.heap.size W w') := fun W h1 h2 => by
    have := rSame_any _ _ T.rt T.rt v2 v3 u2 u3 W h1.1 h2.1
    rwa [sameR_refl] at this
  have HP : Hid (∀ W, DtAt W T v2 v3 A → DtAt W T u2 u3 A' → Calls Tryz.prog 35 #[.slice A T.rs.length cap, .slice A' T.rs.length cap'] W fun e w' => e = .returned (.bool true) ∧ Below W.heap.size W w') := fun W h1 h2 => sameSp_any A A' cap cap' T.rs W hl h1.2 h2.2
  obtain ⟨k80, k81, k82, k83, k84⟩ := dt_cells hA8
  obtain ⟨k90, k91, k92, k93, k94⟩ := dt_cells hA9
  clear h h' hB1 hA8 hA9 hl
  generalize T.rs.length = n at *
  go_enter Tryz.func13, Tryz.ntmps13
  go_upto_region 1 with fail
  rw [← hW1, ← hg9, ← hg8]
  clear hW1 hg9 hg8
  go_wp2_with fail
  refine (HC.out _ H1.out H2.out).mono ?_
  rintro e w3 ⟨rfl, hb⟩
  clear k80 k81 k82 k83 k84 k90 k91 k92 k93 k94 HC
  have H1 := Lib.hid (H1.out.below hb)
  have H2 := Lib.hid (H2.out.below hb)
  have HA8 := Lib.hid (HA8.out.below hb HA8.out.lt)
  have HA9 := Lib.hid (HA9.out.below hb HA9.out.lt)
  have HB1 := Lib.hid (HB1.out.trans (hb.mono HB1.out.size))
  clear hb
  obtain ⟨-, -, -, k83, k84⟩ := dt_cells HA8.out
  obtain ⟨-, -, -, k93, k94⟩ := dt_cells HA9.out
  go_wp2_with fail
  refine (HP.out _ H1.out H2.out).mono ?_
  rintro e w4 ⟨rfl, hb⟩
  clear k83 k84 k93 k94 HP
  have HA8 := Lib.hid (HA8.out.below hb HA8.out.lt)
  have HA9 := Lib.hid (HA9.out.below hb HA9.out.lt)
  have HB1 := Lib.hid (HB1.out.trans (hb.mono HB1.out.size))
  clear hb
  obtain ⟨-, -, -, -, k84⟩ := dt_cells HA8.out
  obtain ⟨-, -, -, -, k94⟩ := dt_cells HA9.out
  go_wp2
  go_ret
  exact ⟨rfl, HB1.out⟩

/-- The contract of decode's Tree. -/
def DecTree : Prop := ∀ (s : ByteArray) (w : World), s.size ≤ 1099511627776 → Calls Tryz.prog 12 #[.string s] w fun e w' => ∃ v2 v3 A cap, e = .returned (.tuple #[.agg (dtC (treeD s.data.toList).1.rt.nm v2 v3 (.slice A (treeD s.data.toList).1.rs.length cap) (treeD s.data.toList).1.bo), .int .i64 ((treeD s.data.toList).2 : Int)]) ∧ DtAt w' (treeD s.data.toList).1 v2 v3 A ∧ Below w.heap.size w w'
end Go.Proofs.YtgfdbmbgldeljaaGreat

/- Has a tree few parts? (the document's Low of layer 14). Condition: spans that fit. -/
namespace Go.Proofs.YtgfdbmbgldeljaaGreat
open Go.RowKit

/-- Few parts: a low root, at most 20 spans. -/
def lowD (T : DT) : Bool := LowR T.rt && decide (T.rs.length ≤ 20)
theorem lowD_and {T : DT} (h : lowD T = true) : LowR T.rt = true ∧ T.rs.length ≤ 20 := by
  unfold lowD at h
  rw [Bool.and_eq_true] at h
  exact ⟨h.1, of_decide_eq_true h.2⟩

set_option maxHeartbeats 1600000 in
set_option maxRecDepth 100000 in
theorem rLowD_any (T : DT) (v2 v3 : Value) (A : Option Addr) (cap : Nat) (w : World) (h : DtAt w T v2 v3 A) :
    Calls Tryz.prog 4 #[.agg (dtC T.rt.nm v2 v3 (.slice A T.rs.length cap) T.bo)] w fun e w' => e = .returned (.bool (lowD T)) ∧ Below w.heap.size w w' := by
  obtain ⟨W1, hW1⟩ : ∃ W1, W1 = w.alloc (.cells (dtC T.rt.nm v2 v3 (.slice A T.rs.length cap) T.bo) 28) := ⟨_, rfl⟩
  obtain ⟨g8, hg8⟩ : ∃ g8, g8 = w.heap.size := ⟨_, rfl⟩
  have hB1 : Below w.heap.size w W1 := by rw [hW1]; exact (Below.refl _ _).alloc (Nat.le_refl _) _
  have hA8 : Arr W1 g8 28 (dtC T.rt.nm v2 v3 (.slice A T.rs.length cap) T.bo) := by rw [hW1, hg8]; exact Arr.new w _ _
  have HB1 := Lib.hid hB1
  have H1 := Lib.hid (h.below hB1)
  have HA8 := Lib.hid hA8
  have HC := Lib.hid (fun W h => rLow_any (fun k => k < W.heap.size) T.rt v2 v3 W h)
  have HE : Hid (lowD T = (LowR T.rt && decide (T.rs.length ≤ 20))) := rfl
  generalize lowD T = R at *
  obtain ⟨k80, k81, k82, k83, k84⟩ := dt_cells hA8
  clear h hB1 hA8
  cases hlo : LowR T.rt with
  | false =>
    rw [hlo] at HC HE
    clear hlo
    go_enter Tryz.func4, Tryz.ntmps4
    go_upto_region 1 with fail
    rw [← hW1, ← hg8]
    clear hW1 hg8
    go_wp2_with fail
    refine (HC.out _ H1.out.1).mono ?_
    rintro e w3 ⟨rfl, hb⟩
    have HB1 := Lib.hid (HB1.out.trans (hb.mono HB1.out.size))
    clear hb k80 k81 k82 k83 k84 HC
    go_wp2
    go_ret
    exact ⟨by rw [HE.out]; rfl, HB1.out⟩
  | true =>
    rw [hlo] at HC HE
    rw [Bool.true_and] at HE
    clear hlo
    go_enter Tryz.func4, Tryz.ntmps4
    go_upto_region 1 with fail
    rw [← hW1, ← hg8]
    clear hW1 hg8
    go_wp2_with fail
    refine (HC.out _ H1.out.1).mono ?_
    rintro e w3 ⟨rfl, hb⟩
    have HA8 := Lib.hid (HA8.out.below hb HA8.out.lt)
    have HB1 := Lib.hid (HB1.out.trans (hb.mono HB1.out.size))
    clear hb k80 k81 k82 k83 k84 HC
    obtain ⟨-, -, -, k83, -⟩ := dt_cells HA8.out
    by_cases h20 : T.rs.length ≤ 20
    · have d1 : decide ((T.rs.length : Int) ≤ 20) = true := decide_eq_true (by omega)
      go_wp2
      go_ret
      exact ⟨by rw [HE.out, decide_eq_true h20]; rfl, HB1.out⟩
    · have d1 : decide ((T.rs.length : Int) ≤ 20) = false := decide_eq_false (by omega)
      go_wp2
      go_ret
      exact ⟨by rw [HE.out, decide_eq_false h20]; rfl, HB1.out⟩
end Go.Proofs.YtgfdbmbgldeljaaGreat
