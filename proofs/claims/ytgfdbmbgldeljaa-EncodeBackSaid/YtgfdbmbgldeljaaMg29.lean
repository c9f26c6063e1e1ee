/- What copyCheck, WriteString and String of the Builder inside a writer of package token do. Conditions: at most 2^47 bytes. -/
import Derived.Test.YtgfdbmbgldeljaaMg28
import Derived.Lib.BufferWrite
namespace Go.Proofs.Ytgfdbmbgldeljaa
open Go.RowKit

theorem wb_size : (Try.prog.info? 68).map (·.size) = some 2 := by kernel_rfl
theorem wb_lies : liesAt Try.prog Try.prog.depth 82 (5 / Try.prog.cellsOf 82) 0 68 1 = true := by kernel_rfl
set_option maxHeartbeats 1000000 in
set_option maxRecDepth 100000 in
theorem wcheck_fresh (g : Nat) (cs : Array Value) (w : World) (hA : Arr w g 82 cs) (h0 : cs[0]? = some (.pointer none)) (h5 : cs.size = 5) :
    Calls Try.prog 44 #[.pointer (some ⟨g, 0, none⟩)] w fun e w' => e = .returned (.tuple #[]) ∧ w' = w.setCell ⟨g, 0, none⟩ (.pointer (some ⟨g, 0, none⟩)) := by
  obtain ⟨j, hj, hjs⟩ := Option.map_eq_some_iff.1 wb_size
  have c0 : w.cell? ⟨g, 0, none⟩ = some (.pointer none) := by rw [hA.cell, h0]
  have f0 := hA.frozen 0
  have hsh : w.shape? g = some (82, 5) := by
    have hA' : w.heap[g]? = _ := hA
    simp [World.shape?, hA', h5]
  have h276 := Try.lays240.f276
  dsimp only [Try.lays240_ren] at h276
  clear hA h0
  go_enter Try.func44, Try.ntmps44
  go_wp2
  rw [Lib.run_to_unsafe w ⟨g, 0, none⟩ Try.underlying65 Try.underlying130 hj (by rw [hjs]; decide) hsh (Nat.zero_lt_succ 4)]
  simp only [Result.andThen]
  rw [Oper.upon_value]
  go_wp2
  rw [run_callFunc_extern h276 (by kernel_rfl) (by kernel_rfl) (by kernel_rfl) (e := Extern.AbiNoEscape.same) (by kernel_rfl)]
  rw [Lib.run_noEscape]
  simp only [Result.andThen]
  rw [Oper.upon_value]
  go_wp2
  rw [Lib.run_from_unsafe w ⟨g, 0, none⟩ Try.underlying130 Try.underlying65 hj hsh wb_lies]
  simp only [Result.andThen]
  rw [Oper.upon_value]
  go_wp2
  go_end0
  exact ⟨rfl, rfl⟩
theorem wcheck_used (g : Nat) (w : World) (h0 : w.cell? ⟨g, 0, none⟩ = some (.pointer (some ⟨g, 0, none⟩))) :
    Calls Try.prog 44 #[.pointer (some ⟨g, 0, none⟩)] w fun e w' => e = .returned (.tuple #[]) ∧ w' = w := Any.Builder_copyCheck_used Try.lays240 Try.Builder_X72_240 g w h0

section
variable {w w' : World} {g : Nat} {p0 bv v : Value} {m : Option Nat} {L : List ByteArray}
theorem BW.arr (h : BW w g p0 bv v m L) : ∃ n : Int, Arr w g 82 #[p0, bv, v, .map m, .int .i64 n] := by
  rcases h with ⟨_, rfl, rfl, h⟩ | ⟨b, D, rfl, h⟩
  · exact ⟨0, h⟩
  · exact ⟨_, h.1⟩
theorem BW.put0 (h : BW w g p0 bv v m L) (u : Value) : BW (w.setCell ⟨g, 0, none⟩ u) g u bv v m L := by
  rcases h with ⟨h1, rfl, rfl, h⟩ | ⟨b, D, rfl, h1, h2, h3, h4, h5⟩
  · exact .inl ⟨h1, rfl, rfl, h.put 0 u⟩
  · exact .inr ⟨b, D, rfl, h1.put 0 u, ow_set h1 h2 (by decide) 0 u, h3, h4.setCell (a := ⟨g, 0, none⟩) (map_arr_ne h4 h1) u, h5⟩
theorem BW.put1 (h : BW w g p0 bv v m L) (u : Value) : BW (w.setCell ⟨g, 1, none⟩ u) g p0 u v m L := by
  rcases h with ⟨h1, rfl, rfl, h⟩ | ⟨b, D, rfl, h1, h2, h3, h4, h5⟩
  · exact .inl ⟨h1, rfl, rfl, h.put 1 u⟩
  · exact .inr ⟨b, D, rfl, h1.put 1 u, ow_set h1 h2 (by decide) 1 u, h3, h4.setCell (a := ⟨g, 1, none⟩) (map_arr_ne h4 h1) u, h5⟩
/-- A row of bytes apart from the Block's is none of its blocks. -/
theorem BW.apart (h : BW w g p0 bv v m L) {u : Value} {n : Nat} {xs : List Value} (hu : w.ownsRow 0 5 1 u n xs) (hd : ∀ k, u.ownBlock = some k → v.ownBlock ≠ some k) : ∀ k, fpB g v m k → ¬ ownS u k := by
  obtain ⟨n', hA⟩ := h.arr
  rintro k (rfl | hk | hk) hu'
  · exact ow_arr hA hu (by decide) hu'.symm
  · exact hd k hu' hk
  · rcases h with ⟨_, _, h3, _⟩ | ⟨b, D, rfl, _, _, _, h4, _⟩
    · rw [h3] at hk; cases hk
    · injection hk with hk; subst hk
      exact map_row_ne h4 hu hu'
end
/-- Block g is a writer: what it has written, S, and its strings L. -/
structure WR (w : World) (g : Nat) (p : Option Addr) (bv v : Value) (m : Option Nat) (S : List UInt8) (L : List ByteArray) : Prop where
  blk : BW w g (.pointer p) bv v m L
  own : p = none ∨ p = some ⟨g, 0, none⟩
  row : w.ownsRow 0 5 1 bv S.length (Lib.byteCells S)
  dis : ∀ k, bv.ownBlock = some k → v.ownBlock ≠ some k
/-- Its blocks. -/
def fpW (g : Nat) (bv v : Value) (m : Option Nat) (k : Nat) : Prop := fpB g v m k ∨ bv.ownBlock = some k
theorem WR.kept {w w' : World} {g : Nat} {p : Option Addr} {bv v : Value} {m : Option Nat} {S : List UInt8} {L : List ByteArray} {F F' : Nat → Prop} (h : WR w g p bv v m S L) (hm : Moved w w' F F') (hf : ∀ k, fpW g bv v m k → ¬ F k) : WR w' g p bv v m S L :=
  ⟨h.blk.kept hm (fun k hk => hf k (.inl hk)), h.own, hm.row h.row (fun k hk => hf k (.inr hk)), h.dis⟩
theorem WR.below {w w' : World} {g : Nat} {p : Option Addr} {bv v : Value} {m : Option Nat} {S : List UInt8} {L : List ByteArray} (h : WR w g p bv v m S L) (hb : Below w.heap.size w w') : WR w' g p bv v m S L := h.kept (Moved.of_below hb (fun _ => False)) (fun _ _ h => h)

set_option maxHeartbeats 1600000 in
set_option maxRecDepth 100000 in
theorem bcheck_any (g : Nat) (p : Option Addr) (bv v : Value) (m : Option Nat) (S : List UInt8) (L : List ByteArray) (w : World) (h : WR w g p bv v m S L) :
    Calls Try.prog 44 #[.pointer (some ⟨g, 0, none⟩)] w fun e w' => e = .returned (.tuple #[]) ∧ WR w' g (some ⟨g, 0, none⟩) bv v m S L ∧ w.grownBy w' (some g) := by
  obtain ⟨n, hA⟩ := h.blk.arr
  rcases h.own with rfl | rfl
  · refine (wcheck_fresh g _ w hA rfl rfl).mono ?_
    rintro e w' ⟨rfl, rfl⟩
    exact ⟨rfl, ⟨h.blk.put0 _, .inr rfl, ow_set hA h.row (by decide) 0 _, h.dis⟩, gr_cell _ _ _ _⟩
  · refine (wcheck_used g w (hA.cell 0)).mono ?_
    rintro e w' ⟨rfl, rfl⟩
    exact ⟨rfl, h, gr_below (Below.refl _ _)⟩

set_option maxHeartbeats 1600000 in
set_option maxRecDepth 100000 in
theorem bwrite_any (g : Nat) (p : Option Addr) (bv v : Value) (m : Option Nat) (S : List UInt8) (L : List ByteArray) (x : ByteArray) (w : World) (h : WR w g p bv v m S L) (hl : S.length + x.size ≤ 70368744177664) :
    Calls Try.prog 25 #[.pointer (some ⟨g, 0, none⟩), .string x] w fun e w' => e = .returned (.tuple #[.int .i64 (x.size : Int), .nilIface]) ∧ ∃ bv', WR w' g (some ⟨g, 0, none⟩) bv' v m (S ++ x.data.toList) L ∧ Moved w w' (fpW g bv v m) (fpW g bv' v m) := by
  have HC := Lib.hid (bcheck_any g p bv v m S L w h)
  have HEL := Lib.hid elemB
  clear h
  go_enter Try.func25, Try.ntmps25
  go_wp2_with fail
  refine HC.out.mono ?_
  rintro e w1 ⟨rfl, h1, hg1⟩
  obtain ⟨n, hA1⟩ := h1.blk.arr
  obtain ⟨A, cap, rfl⟩ := slice_of h1.row
  have c1 := hA1.cell 1
  have H1 := Lib.hid h1
  have HG1 := Lib.hid hg1
  have HA1 := Lib.hid hA1
  clear h1 hg1 hA1 HC
  go_upto_region 3 with (first
    | (at_builtin; refine append_str_moved rfl (.tmp 12) (.tmp 13) 66 9 rfl 5 HEL Try.underlying9 (.slice A S.length cap) S.length (Lib.byteCells S) rfl H1.out.row x rfl (by unfold maxLen; omega) (by omega) ?_; intro v2 w2 ho2 hm2; obtain ⟨A2, cap2, rfl⟩ := slice_of ho2; have HO2 := Lib.hid ho2; have HM2 := Lib.hid hm2; have HA2 := Lib.hid (hm2.arr HA1.out (fun hk => ow_arr HA1.out H1.out.row (by decide) hk.symm)); have f2 := HA2.out.frozen 1; have c2 := HA2.out.cell 1; clear ho2 hm2))
  have e1 : (S ++ x.data.toList).length = S.length + x.size := by rw [List.length_append]; rfl
  have e2 : Lib.byteCells (S ++ x.data.toList) = Lib.byteCells S ++ Lib.strCells x := by rw [Lib.byteCells_append]; rfl
  have HW : Hid (WR (w2.setCell ⟨g, 1, none⟩ (.slice A2 (S.length + x.size) cap2)) g (some ⟨g, 0, none⟩) (.slice A2 (S.length + x.size) cap2) v m (S ++ x.data.toList) L) := by
    refine ⟨(H1.out.blk.kept HM2.out (H1.out.blk.apart H1.out.row H1.out.dis)).put1 _, .inr rfl, ?_, ?_⟩
    · rw [e1, e2]; exact ow_set HA2.out HO2.out (by decide) 1 _
    · intro k hk hv
      rcases HM2.out.foot k hk with h5 | h5
      · exact H1.out.dis k h5 hv
      · have := H1.out.blk.lt (.inr (.inl hv)); omega
  have HMV : Hid (Moved w (w2.setCell ⟨g, 1, none⟩ (.slice A2 (S.length + x.size) cap2)) (fpW g (.slice A S.length cap) v m) (fpW g (.slice A2 (S.length + x.size) cap2) v m)) := by
    have m1 : Moved w w1 (fpW g (.slice A S.length cap) v m) (fpW g (.slice A S.length cap) v m) := Moved.grown HG1.out (fun k hk => by injection hk with hk; exact .inl (.inl hk.symm)) (fun k hk => .inl hk)
    have m2 : Moved w1 w2 (fpW g (.slice A S.length cap) v m) (fpW g (.slice A2 (S.length + x.size) cap2) v m) := HM2.out.inside (fun k hk => .inr hk) (fun k hk => by
      rcases hk with hk | hk
      · exact .inl (.inl hk)
      · exact .inr (.inl hk))
    have m3 : Moved w2 (w2.setCell ⟨g, 1, none⟩ (.slice A2 (S.length + x.size) cap2)) (fpW g (.slice A2 (S.length + x.size) cap2) v m) (fpW g (.slice A2 (S.length + x.size) cap2) v m) := Moved.grown (gr_cell w2 g 1 _) (fun k hk => by injection hk with hk; exact .inl (.inl hk.symm)) (fun k hk => .inl hk)
    exact m1.trans (m2.trans m3)
  clear e1 e2 HO2 HM2 HA2 H1 HG1 HA1
  go_wp2
  go_ret2
  exact ⟨rfl, _, HW.out, HMV.out⟩

theorem gr_freeze (w : World) (g n : Nat) : w.grownBy (w.freeze ⟨g, 0, none⟩ n) (some g) := by
  unfold World.freeze
  split
  · exact gr_below (Below.refl _ _)
  · exact ⟨rfl, rfl, rfl, by simp, fun k _ hk => by
      simp only [Array.getElem?_modify]
      rw [if_neg (fun e => hk (by rw [← e]))]⟩
theorem cellsU8 : Try.prog.cellsOf 5 = 1 := by kernel_rfl
set_option maxHeartbeats 2000000 in
set_option maxRecDepth 100000 in
theorem bstring_any (g : Nat) (p : Option Addr) (bv v : Value) (m : Option Nat) (S : List UInt8) (L : List ByteArray) (w : World) (h : WR w g p bv v m S L) (h0 : S ≠ []) :
    Calls Try.prog 27 #[.pointer (some ⟨g, 0, none⟩)] w fun e w' => e = .returned (.string ⟨S.toArray⟩) ∧ BW w' g (.pointer p) bv v m L ∧ Moved w w' (ownS bv) (ownS bv) := by
  have hl0 : S.length ≠ 0 := by simpa using h0
  have hap := h.blk.apart h.row h.dis
  have hrow := h.row
  obtain ⟨gb, cap, cur, rfl, hg, hnc, hcm, hcs, htake⟩ : ∃ gb cap cur, bv = .slice (some ⟨gb, 0, none⟩) S.length cap ∧ w.heap[gb]? = some (.cells cur 5 (0, 0)) ∧ S.length ≤ cap ∧ cap ≤ maxLen ∧ cur.size = cap * 1 ∧ cur.toList.take (S.length * 1) = Lib.byteCells S := by
    rcases h.row.2 with ⟨_, hz⟩ | ⟨g, cap, cur, hv, _, r⟩
    · exact absurd hz hl0
    · exact ⟨g, cap, cur, hv, r⟩
  obtain ⟨n, hA⟩ := h.blk.arr
  have c1 : w.drew.cell? ⟨g, 1, none⟩ = some (.slice (some ⟨gb, 0, none⟩) S.length cap) := hA.cell 1
  have c2 : w.cell? ⟨g, 1, none⟩ = some (.slice (some ⟨gb, 0, none⟩) S.length cap) := hA.cell 1
  have hSD : (Builtin.unsafeSliceData_ #[66] 104 #[.slice (some ⟨gb, 0, none⟩) S.length cap]).run Try.prog w.drew = .ok (.pointer (some ⟨gb, 0, none⟩)) w.drew :=
    Lib.run_unsafeSliceData_row _ _ _ _ _ _ (by omega)
  have hUS : (Builtin.unsafeString_ #[104, 3] 9 #[.pointer (some ⟨gb, 0, none⟩), .int .i64 S.length]).run Try.prog w.drew = .ok (.string ⟨S.toArray⟩) (w.drew.freeze ⟨gb, 0, none⟩ S.length) := by
    refine Lib.run_unsafeString_row w.drew 104 3 9 5 Try.underlying104 cellsU8 gb cur.size (by have hg' : w.drew.heap[gb]? = some (.cells cur 5 (0, 0)) := hg; simp [World.shape?, hg']) S h0 (by omega) (by unfold maxLen at hcm; omega) ?_
    intro j x hx
    exact hrow.cells (g := gb) rfl j (.int .u8 x.toNat) (by simp [Lib.byteCells, hx])
  have HM : Hid (Moved w (w.drew.freeze ⟨gb, 0, none⟩ S.length) (ownS (.slice (some ⟨gb, 0, none⟩) S.length cap)) (ownS (.slice (some ⟨gb, 0, none⟩) S.length cap))) :=
    Moved.grown (World.grownBy.trans (gr_below (below_drewN w 1)) (gr_freeze w.drew gb S.length)) (fun k hk => by injection hk with hk; subst hk; rfl) (fun k hk => .inl hk)
  have HBW := Lib.hid (h.blk.kept HM.out hap)
  have mixed := Try.lays169.mixed
  clear h hap hrow hg htake hA h0
  go_enter Try.func27, Try.ntmps27
  go_wp2
  go_region_o
  all_goals (go_wp2; go_ret; exact ⟨rfl, HBW.out, HM.out⟩)
end Go.Proofs.Ytgfdbmbgldeljaa
