/- What copyCheck, WriteString and String of the Builder inside a writer of package token do. Conditions: at most 2^47 bytes. -/
import Derived.Test.YtgfdbmbgldeljaaGreatMg31
import Derived.Lib.BufferWrite
import Derived.Test.YtgfdbmbgldeljaaGreatMg0
import Derived.Test.YtgfdbmbgldeljaaGreatMg3
import Derived.Test.YtgfdbmbgldeljaaGreatMg8
import Derived.Laws.IdiomStrings
import Derived.Deep.QuietTactic
import Derived.BigQuiet
import Derived.Deep.MidRow
namespace Go.Proofs.YtgfdbmbgldeljaaGreat
open Go.RowKit

theorem wb_size : (Tryz.prog.info? 60).map (·.size) = some 2 := by kernel_rfl
theorem wb_lies : liesAt Tryz.prog Tryz.prog.depth 86 (5 / Tryz.prog.cellsOf 86) 0 60 1 = true := by kernel_rfl
set_option maxHeartbeats 1000000 in
set_option maxRecDepth 100000 in
theorem wcheck_fresh (g : Nat) (cs : Array Value) (w : World) (hA : Arr w g 86 cs) (h0 : cs[0]? = some (.pointer none)) (h5 : cs.size = 5) :
    Calls Tryz.prog 52 #[.pointer (some ⟨g, 0, none⟩)] w fun e w' => e = .returned (.tuple #[]) ∧ w' = w.setCell ⟨g, 0, none⟩ (.pointer (some ⟨g, 0, none⟩)) := by
  obtain ⟨j, hj, hjs⟩ := Option.map_eq_some_iff.1 wb_size
  have c0 : w.cell? ⟨g, 0, none⟩ = some (.pointer none) := by rw [hA.cell, h0]
  have f0 := hA.frozen 0
  have hsh : w.shape? g = some (86, 5) := by
    have hA' : w.heap[g]? = _ := hA
    simp [World.shape?, hA', h5]
  have h276 := Tryz.lays240.f276
  dsimp only [Tryz.lays240_ren] at h276
  clear hA h0
  go_enter Tryz.func52, Tryz.ntmps52
  go_wp2
  rw [Lib.run_to_unsafe w ⟨g, 0, none⟩ Tryz.underlying57 Tryz.underlying127 hj (by rw [hjs]; decide) hsh (Nat.zero_lt_succ 4)]
  simp only [Result.andThen]
  rw [Oper.upon_value]
  go_wp2
  rw [run_callFunc_extern h276 (by kernel_rfl) (by kernel_rfl) (by kernel_rfl) (e := Extern.AbiNoEscape.same) (by kernel_rfl)]
  rw [Lib.run_noEscape]
  simp only [Result.andThen]
  rw [Oper.upon_value]
  go_wp2
  rw [Lib.run_from_unsafe w ⟨g, 0, none⟩ Tryz.underlying127 Tryz.underlying57 hj hsh wb_lies]
  simp only [Result.andThen]
  rw [Oper.upon_value]
  go_wp2
  go_end0
  exact ⟨rfl, rfl⟩
theorem wcheck_used (g : Nat) (w : World) (h0 : w.cell? ⟨g, 0, none⟩ = some (.pointer (some ⟨g, 0, none⟩))) :
    Calls Tryz.prog 52 #[.pointer (some ⟨g, 0, none⟩)] w fun e w' => e = .returned (.tuple #[]) ∧ w' = w := Any.Builder_copyCheck_used Tryz.lays240 Tryz.Builder_X72_240 g w h0

section
variable {w w' : World} {g : Nat} {p0 bv v : Value} {m : Option Nat} {L : List ByteArray}
theorem BW.arr (h : BW w g p0 bv v m L) : ∃ n : Int, Arr w g 86 #[p0, bv, v, .map m, .int .i64 n] := by
  rcases h with ⟨_, rfl, rfl, h⟩ | ⟨b, D, rfl, h⟩
  · exact ⟨0, h⟩
  · exact ⟨_, h.1⟩
theorem BW.put0 (h : BW w g p0 bv v m L) (u : Value) : BW (w.setCell ⟨g, 0, none⟩ u) g u bv v m L := by
  rcases h with ⟨h1, rfl, rfl, h⟩ | ⟨b, D, rfl, h1, h2, h3, h4, h5⟩
  · exact .inl ⟨h1, rfl, rfl, h.put 0 u⟩
  · exact .inr ⟨b, D, rfl, h1.put 0 u, ow_set h1 h2 (by decide) 0 u, h3, h4.setCell (a := ⟨g, 0, none⟩) (map_arr_ne h4 h1) u, h5⟩
theorem BW.put1 (h : BW w g p0 bv v m L) (u : Value) : BW (w.setCell ⟨g, 1, none⟩ u) g p0 u v m L := by
  rcases h with ⟨h1, rfl, rfl, h⟩ | ⟨b, D, rfl, h1, h2, h3, h4, h5⟩
  · exact .inl ⟨h1, rfl, rfl, h.put 1 u⟩
  · exact .inr ⟨b, D, rfl, h1.put 1 u, ow_set h1 h2 (by decide) 1 u, h3, h4.setCell (a := ⟨g, 1, none⟩) (map_arr_ne h4 h1) u, h5⟩
/-- A row of bytes apart from the Block's is none of its blocks. -/
theorem BW.apart (h : BW w g p0 bv v m L) {u : Value} {n : Nat} {xs : List Value} (hu : w.ownsRow 0 5 1 u n xs) (hd : ∀ k, u.ownBlock = some k → v.ownBlock ≠ some k) : ∀ k, fpB g v m k → ¬ ownS u k := by
  obtain ⟨n', hA⟩ := h.arr
  rintro k (rfl | hk | hk) hu'
  · exact ow_arr hA hu (by decide) hu'.symm
  · exact hd k hu' hk
  · rcases h with ⟨_, _, h3, _⟩ | ⟨b, D, rfl, _, _, _, h4, _⟩
    · rw [h3] at hk; cases hk
    · injection hk with hk; subst hk
      exact map_row_ne h4 hu hu'
end
/-- Block g is a writer: what it has written, S, and its strings L. -/
structure WR (w : World) (g : Nat) (p : Option Addr) (bv v : Value) (m : Option Nat) (S : List UInt8) (L : List ByteArray) : Prop where
  blk : BW w g (.pointer p) bv v m L
  own : p = none ∨ p = some ⟨g, 0, none⟩
  row : w.ownsRow 0 5 1 bv S.length (Lib.byteCells S)
  dis : ∀ k, bv.ownBlock = some k → v.ownBlock ≠ some k
/-- Its blocks. -/
def fpW (g : Nat) (bv v : Value) (m : Option Nat) (k : Nat) : Prop := fpB g v m k ∨ bv.ownBlock = some k
theorem WR.kept {w w' : World} {g : Nat} {p : Option Addr} {bv v : Value} {m : Option Nat} {S : List UInt8} {L : List ByteArray} {F F' : Nat → Prop} (h : WR w g p bv v m S L) (hm : Moved w w' F F') (hf : ∀ k, fpW g bv v m k → ¬ F k) : WR w' g p bv v m S L :=
  ⟨h.blk.kept hm (fun k hk => hf k (.inl hk)), h.own, hm.row h.row (fun k hk => hf k (.inr hk)), h.dis⟩
theorem WR.below {w w' : World} {g : Nat} {p : Option Addr} {bv v : Value} {m : Option Nat} {S : List UInt8} {L : List ByteArray} (h : WR w g p bv v m S L) (hb : Below w.heap.size w w') : WR w' g p bv v m S L := h.kept (Moved.of_below hb (fun _ => False)) (fun _ _ h => h)

set_option maxHeartbeats 1600000 in
set_option maxRecDepth 100000 in
theorem bcheck_any (g : Nat) (p : Option Addr) (bv v : Value) (m : Option Nat) (S : List UInt8) (L : List ByteArray) (w : World) (h : WR w g p bv v m S L) :
    Calls Tryz.prog 52 #[.pointer (some ⟨g, 0, none⟩)] w fun e w' => e = .returned (.tuple #[]) ∧ WR w' g (some ⟨g, 0, none⟩) bv v m S L ∧ w.grownBy w' (some g) := by
  obtain ⟨n, hA⟩ := h.blk.arr
  rcases h.own with rfl | rfl
  · refine (wcheck_fresh g _ w hA rfl rfl).mono ?_
    rintro e w' ⟨rfl, rfl⟩
    exact ⟨rfl, ⟨h.blk.put0 _, .inr rfl, ow_set hA h.row (by decide) 0 _, h.dis⟩, gr_cell _ _ _ _⟩
  · refine (wcheck_used g w (hA.cell 0)).mono ?_
    rintro e w' ⟨rfl, rfl⟩
    exact ⟨rfl, h, gr_below (Below.refl _ _)⟩

set_option maxHeartbeats 1600000 in
set_option maxRecDepth 100000 in
theorem bwrite_any (g : Nat) (p : Option Addr) (bv v : Value) (m : Option Nat) (S : List UInt8) (L : List ByteArray) (x : ByteArray) (w : World) (h : WR w g p bv v m S L) (hl : S.length + x.size ≤ 70368744177664) :
    Calls Tryz.prog 25 #[.pointer (some ⟨g, 0, none⟩), .string x] w fun e w' => e = .returned (.tuple #[.int .i64 (x.size : Int), .nilIface]) ∧ ∃ bv', WR w' g (some ⟨g, 0, none⟩) bv' v m (S ++ x.data.toList) L ∧ Moved w w' (fpW g bv v m) (fpW g bv' v m) := by
  have HC := Lib.hid (bcheck_any g p bv v m S L w h)
  have HEL := Lib.hid elemB
  clear h
  go_enter Tryz.func25, Tryz.ntmps25
  go_wp2_with fail
  refine HC.out.mono ?_
  rintro e w1 ⟨rfl, h1, hg1⟩
  obtain ⟨n, hA1⟩ := h1.blk.arr
  obtain ⟨A, cap, rfl⟩ := slice_of h1.row
  have c1 := hA1.cell 1
  have H1 := Lib.hid h1
  have HG1 := Lib.hid hg1
  have HA1 := Lib.hid hA1
  clear h1 hg1 hA1 HC
  go_upto_region 3 with (first
    | (at_builtin; refine append_str_moved rfl (.tmp 12) (.tmp 13) 58 9 rfl 5 HEL Tryz.underlying9 (.slice A S.length cap) S.length (Lib.byteCells S) rfl H1.out.row x rfl (by unfold maxLen; omega) (by omega) ?_; intro v2 w2 ho2 hm2; obtain ⟨A2, cap2, rfl⟩ := slice_of ho2; have HO2 := Lib.hid ho2; have HM2 := Lib.hid hm2; have HA2 := Lib.hid (hm2.arr HA1.out (fun hk => ow_arr HA1.out H1.out.row (by decide) hk.symm)); have f2 := HA2.out.frozen 1; have c2 := HA2.out.cell 1; clear ho2 hm2))
  have e1 : (S ++ x.data.toList).length = S.length + x.size := by rw [List.length_append]; rfl
  have e2 : Lib.byteCells (S ++ x.data.toList) = Lib.byteCells S ++ Lib.strCells x := by rw [Lib.byteCells_append]; rfl
  have HW : Hid (WR (w2.setCell ⟨g, 1, none⟩ (.slice A2 (S.length + x.size) cap2)) g (some ⟨g, 0, none⟩) (.slice A2 (S.length + x.size) cap2) v m (S ++ x.data.toList) L) := by
    refine ⟨(H1.out.blk.kept HM2.out (H1.out.blk.apart H1.out.row H1.out.dis)).put1 _, .inr rfl, ?_, ?_⟩
    · rw [e1, e2]; exact ow_set HA2.out HO2.out (by decide) 1 _
    · intro k hk hv
      rcases HM2.out.foot k hk with h5 | h5
      · exact H1.out.dis k h5 hv
      · have := H1.out.blk.lt (.inr (.inl hv)); omega
  have HMV : Hid (Moved w (w2.setCell ⟨g, 1, none⟩ (.slice A2 (S.length + x.size) cap2)) (fpW g (.slice A S.length cap) v m) (fpW g (.slice A2 (S.length + x.size) cap2) v m)) := by
    have m1 : Moved w w1 (fpW g (.slice A S.length cap) v m) (fpW g (.slice A S.length cap) v m) := Moved.grown HG1.out (fun k hk => by injection hk with hk; exact .inl (.inl hk.symm)) (fun k hk => .inl hk)
    have m2 : Moved w1 w2 (fpW g (.slice A S.length cap) v m) (fpW g (.slice A2 (S.length + x.size) cap2) v m) := HM2.out.inside (fun k hk => .inr hk) (fun k hk => by
      rcases hk with hk | hk
      · exact .inl (.inl hk)
      · exact .inr (.inl hk))
    have m3 : Moved w2 (w2.setCell ⟨g, 1, none⟩ (.slice A2 (S.length + x.size) cap2)) (fpW g (.slice A2 (S.length + x.size) cap2) v m) (fpW g (.slice A2 (S.length + x.size) cap2) v m) := Moved.grown (gr_cell w2 g 1 _) (fun k hk => by injection hk with hk; exact .inl (.inl hk.symm)) (fun k hk => .inl hk)
    exact m1.trans (m2.trans m3)
  clear e1 e2 HO2 HM2 HA2 H1 HG1 HA1
  go_wp2
  go_ret2
  exact ⟨rfl, _, HW.out, HMV.out⟩

theorem gr_freeze (w : World) (g n : Nat) : w.grownBy (w.freeze ⟨g, 0, none⟩ n) (some g) := by
  unfold World.freeze
  split
  · exact gr_below (Below.refl _ _)
  · exact ⟨rfl, rfl, rfl, by simp, fun k _ hk => by
      simp only [Array.getElem?_modify]
      rw [if_neg (fun e => hk (by rw [← e]))]⟩
theorem cellsU8 : Tryz.prog.cellsOf 5 = 1 := by kernel_rfl
set_option maxHeartbeats 2000000 in
set_option maxRecDepth 100000 in
theorem bstring_any (g : Nat) (p : Option Addr) (bv v : Value) (m : Option Nat) (S : List UInt8) (L : List ByteArray) (w : World) (h : WR w g p bv v m S L) (h0 : S ≠ []) :
    Calls Tryz.prog 27 #[.pointer (some ⟨g, 0, none⟩)] w fun e w' => e = .returned (.string ⟨S.toArray⟩) ∧ BW w' g (.pointer p) bv v m L ∧ Moved w w' (ownS bv) (ownS bv) := by
  have hl0 : S.length ≠ 0 := by simpa using h0
  have hap := h.blk.apart h.row h.dis
  have hrow := h.row
  obtain ⟨gb, cap, cur, rfl, hg, hnc, hcm, hcs, htake⟩ : ∃ gb cap cur, bv = .slice (some ⟨gb, 0, none⟩) S.length cap ∧ w.heap[gb]? = some (.cells cur 5 (0, 0)) ∧ S.length ≤ cap ∧ cap ≤ maxLen ∧ cur.size = cap * 1 ∧ cur.toList.take (S.length * 1) = Lib.byteCells S := by
    rcases h.row.2 with ⟨_, hz⟩ | ⟨g, cap, cur, hv, _, r⟩
    · exact absurd hz hl0
    · exact ⟨g, cap, cur, hv, r⟩
  obtain ⟨n, hA⟩ := h.blk.arr
  have c1 : w.drew.cell? ⟨g, 1, none⟩ = some (.slice (some ⟨gb, 0, none⟩) S.length cap) := hA.cell 1
  have c2 : w.cell? ⟨g, 1, none⟩ = some (.slice (some ⟨gb, 0, none⟩) S.length cap) := hA.cell 1
  have hSD : (Builtin.unsafeSliceData_ #[58] 106 #[.slice (some ⟨gb, 0, none⟩) S.length cap]).run Tryz.prog w.drew = .ok (.pointer (some ⟨gb, 0, none⟩)) w.drew :=
    Lib.run_unsafeSliceData_row _ _ _ _ _ _ (by omega)
  have hUS : (Builtin.unsafeString_ #[106, 3] 9 #[.pointer (some ⟨gb, 0, none⟩), .int .i64 S.length]).run Tryz.prog w.drew = .ok (.string ⟨S.toArray⟩) (w.drew.freeze ⟨gb, 0, none⟩ S.length) := by
    refine Lib.run_unsafeString_row w.drew 106 3 9 5 Tryz.underlying106 cellsU8 gb cur.size (by have hg' : w.drew.heap[gb]? = some (.cells cur 5 (0, 0)) := hg; simp [World.shape?, hg']) S h0 (by omega) (by unfold maxLen at hcm; omega) ?_
    intro j x hx
    exact hrow.cells (g := gb) rfl j (.int .u8 x.toNat) (by simp [Lib.byteCells, hx])
  have HM : Hid (Moved w (w.drew.freeze ⟨gb, 0, none⟩ S.length) (ownS (.slice (some ⟨gb, 0, none⟩) S.length cap)) (ownS (.slice (some ⟨gb, 0, none⟩) S.length cap))) :=
    Moved.grown (World.grownBy.trans (gr_below (below_drewN w 1)) (gr_freeze w.drew gb S.length)) (fun k hk => by injection hk with hk; subst hk; rfl) (fun k hk => .inl hk)
  have HBW := Lib.hid (h.blk.kept HM.out hap)
  have mixed := Tryz.lays169.mixed
  clear h hap hrow hg htake hA h0
  go_enter Tryz.func27, Tryz.ntmps27
  go_wp2
  go_region_o
  all_goals (go_wp2; go_ret; exact ⟨rfl, HBW.out, HM.out⟩)
end Go.Proofs.YtgfdbmbgldeljaaGreat

/- What zeros and the reader's number and padded of package token do. Conditions: strings of at most 2^40 bytes. -/
namespace Go.Proofs.YtgfdbmbgldeljaaGreat
open Go.RowKit

/-- n bytes 0. -/
def zb (n : Nat) : ByteArray := ⟨(List.replicate n 0).toArray⟩
theorem zb_list (n : Nat) : (zb n).data.toList = List.replicate n 0 := by simp [zb]
set_option maxHeartbeats 400000 in
set_option maxRecDepth 100000 in
theorem zeros_any (n : Nat) (w : World) (hn : n ≤ 3) : Calls Tryz.prog 81 #[.int .i64 (n : Int)] w fun e w' => e = .returned (.string (zb n)) ∧ w = w' := by
  obtain ⟨Z, hZ⟩ : ∃ Z : ByteArray, Z = ⟨#[0, 0, 0]⟩ := ⟨_, rfl⟩
  have hs : Z.size = 3 := by rw [hZ]; rfl
  have c0 : (0 : Int) ≤ n := by omega
  have c1 : (n : Int) ≤ 3 := by omega
  have HE : Hid (ByteArray.extract ⟨#[0, 0, 0]⟩ 0 n = zb n) := by
    match n, hn with
    | 0, _ => rfl
    | 1, _ => rfl
    | 2, _ => rfl
    | 3, _ => rfl
  clear hZ hs
  go_enter Tryz.func81, Tryz.ntmps81
  go_wp2
  go_ret
  exact ⟨by rw [← HE.out]; rfl, rfl⟩

theorem drop_str (s : ByteArray) (a : Nat) : (s.extract a s.size).data.toList = s.data.toList.drop a := by
  rw [ByteArray.data_extract, Array.toList_extract, List.extract_eq_take_drop, List.take_of_length_le (by rw [List.length_drop]; exact Nat.le_refl _)]

set_option maxHeartbeats 800000 in
set_option maxRecDepth 100000 in
theorem number_no (g : Nat) (cs : Array Value) (s : ByteArray) (a : Nat) (p : Option Addr) (w : World) (hA : Arr w g 134 cs) (h0 : cs[0]? = some (.string s)) (ha : a ≤ s.size) (h : s.size < a + 4) :
    Calls Tryz.prog 88 #[.pointer (some ⟨g, 0, none⟩), .int .i64 (a : Int), .pointer p] w fun e w' => e = .returned (.tuple #[.int .i64 0, .int .i64 14]) ∧ w = w' := by
  have k0 : w.cell? ⟨g, 0, none⟩ = some (.string s) := by rw [hA.cell, h0]
  have HFB := Lib.hid (fun W => frombig_no (s.extract a s.size) W (by rw [ByteArray.size_extract]; omega))
  have c0 : (0 : Int) ≤ a := by omega
  have c1 : (a : Int) ≤ s.size := by omega
  clear hA h0 h ha
  go_enter Tryz.func88, Tryz.ntmps88
  go_wp2_with fail
  refine (HFB.out _).mono ?_
  rintro e w1 ⟨rfl, rfl⟩
  go_wp2
  go_ret2
  exact ⟨rfl, rfl⟩
set_option maxHeartbeats 800000 in
set_option maxRecDepth 100000 in
theorem number_yes (g : Nat) (cs : Array Value) (s : ByteArray) (a p : Nat) (x : Value) (w : World) (hA : Arr w g 134 cs) (h0 : cs[0]? = some (.string s)) (hp : cs[p]? = some x) (hm : s.size ≤ 1099511627776) (h : a + 4 ≤ s.size) :
    Calls Tryz.prog 88 #[.pointer (some ⟨g, 0, none⟩), .int .i64 (a : Int), .pointer (some ⟨g, p, none⟩)] w fun e w' => e = .returned (.tuple #[.int .i64 ((a + 4 : Nat) : Int), .int .i64 0]) ∧ Arr w' g 134 (cs.setIfInBounds p (.int .i64 (frombig (s.data.toList.drop a)))) ∧ w.grownBy w' (some g) := by
  have k0 : w.cell? ⟨g, 0, none⟩ = some (.string s) := by rw [hA.cell, h0]
  have HFB := Lib.hid (fun W => frombig_yes (s.extract a s.size) W (by rw [ByteArray.size_extract]; omega) (by rw [ByteArray.size_extract]; unfold maxLen; omega))
  rw [drop_str] at HFB
  generalize frombig (s.data.toList.drop a) = n at *
  have c0 : (0 : Int) ≤ a := by omega
  have c1 : (a : Int) ≤ s.size := by omega
  have HA := Lib.hid hA
  clear hA h0 
  go_enter Tryz.func88, Tryz.ntmps88
  go_wp2_with fail
  refine (HFB.out _).mono ?_
  rintro e w1 ⟨rfl, hb1⟩
  have hA1 := HA.out.below hb1 HA.out.lt
  have k1 : w1.cell? ⟨g, p, none⟩ = some x := by rw [hA1.cell, hp]
  have f1 := hA1.frozen p
  have HA2 := Lib.hid (hA1.put p (.int .i64 n))
  have HG2 := Lib.hid (World.grownBy.trans (gr_below (r := some g) hb1) (gr_cell w1 g p (.int .i64 n)))
  clear hA1 hb1 HA HFB
  go_wp2
  go_ret2
  exact ⟨by simp, HA2.out, HG2.out⟩

theorem str_eq10 {a b : ByteArray} : (a.toList == b.toList) = decide (a = b) := by
  by_cases h : a = b
  · subst h; simp
  · have : ¬ a.toList = b.toList := fun e => h (by
      rw [ByteArray.toList_eq, ByteArray.toList_eq] at e
      exact ByteArray.ext (Array.ext' e))
    simp [h, this]

/-- The error of so many bytes and the bytes 0 behind them. -/
def padE (l : List UInt8) (n : Nat) : Nat := if l.length < up4 n then 14 else if zerosB ((l.take (up4 n)).drop n) = true then 0 else 6
theorem zerosB_iff (l : List UInt8) : zerosB l = true ↔ l = List.replicate l.length 0 := by
  unfold zerosB
  rw [List.all_eq_true, List.eq_replicate_iff]
  simp
theorem zeros_str (s : ByteArray) (a n u : Nat) (hu : a + u ≤ s.size) (hn : n ≤ u) : s.extract (a + n) (a + u) = zb (u - n) ↔ zerosB (((s.data.toList.drop a).take u).drop n) = true := by
  have e : (s.extract (a + n) (a + u)).data.toList = ((s.data.toList.drop a).take u).drop n := by
    rw [ByteArray.data_extract, Array.toList_extract, List.extract_eq_take_drop, List.drop_take, List.drop_drop, show a + u - (a + n) = u - n by omega]
  have hl : (((s.data.toList.drop a).take u).drop n).length = u - n := by
    have : s.data.toList.length = s.size := rfl
    simp [List.length_drop, List.length_take]; omega
  rw [zerosB_iff, hl, ← e]
  refine ⟨fun h => by rw [h, zb_list], fun h => ?_⟩
  apply ByteArray.ext
  apply Array.ext'
  rw [h, zb_list]
set_option maxHeartbeats 1600000 in
set_option maxRecDepth 100000 in
theorem rdpad_any (g : Nat) (cs : Array Value) (s : ByteArray) (a n : Nat) (w : World) (hA : Arr w g 134 cs) (h0 : cs[0]? = some (.string s)) (ha : a ≤ s.size) (hm : s.size ≤ 1099511627776) (hn : n ≤ 2199023255552) (er : Nat) (her : padE (s.data.toList.drop a) n = er) :
    Calls Tryz.prog 99 #[.pointer (some ⟨g, 0, none⟩), .int .i64 (a : Int), .int .i64 (n : Int)] w fun e w' => e = .returned (.tuple #[.int .i64 (if er = 0 then ((a + up4 n : Nat) : Int) else 0), .int .i64 (er : Int)]) ∧ Below w.heap.size w w' := by
  have k0 : ∀ m, (w.drewN m).cell? ⟨g, 0, none⟩ = some (.string s) := fun m => by
    have : Arr (w.drewN m) g 134 cs := hA.drewN m
    rw [this.cell, h0]
  have hup : upOf (n : Int) = ((up4 n : Nat) : Int) := by unfold upOf up4; rw [if_neg (by omega)]; omega
  have HUP := Lib.hid (fun W => up_any (n : Int) W)
  rw [hup] at HUP
  have h1 := up4_ge n
  have h2 := up4_lt n
  have hz := zeros_str s a n (up4 n)
  have hl : (s.data.toList.drop a).length = s.size - a := by rw [List.length_drop]; rfl
  unfold padE at her
  rw [hl] at her
  generalize zerosB (((s.data.toList.drop a).take (up4 n)).drop n) = zr at *
  generalize hU : up4 n = u at *
  clear hup hU hl hA
  have c0 : (0 : Int) ≤ a := by omega
  by_cases hs : s.size - a < u
  · rw [if_pos hs] at her
    subst her
    have d1 : decide (((s.size : Nat) : Int) - (a : Int) < (n : Int) + ((u : Int) - (n : Int))) = true := decide_eq_true (by omega)
    have k1 : w.cell? ⟨g, 0, none⟩ = some (.string s) := k0 0
    clear hz h0 k0 hs
    go_enter Tryz.func99, Tryz.ntmps99
    go_wp2_with fail
    refine (HUP.out _).mono ?_
    rintro e w1 ⟨rfl, rfl⟩
    go_wp2
    go_ret2
    exact ⟨rfl, Below.refl _ _⟩
  · rw [if_neg hs] at her
    have hz := hz (by omega) h1
    have d1 : decide (((s.size : Nat) : Int) - (a : Int) < (n : Int) + ((u : Int) - (n : Int))) = false := decide_eq_false (by omega)
    have k1 : w.cell? ⟨g, 0, none⟩ = some (.string s) := k0 0
    have HZQ := Lib.hid (fun (W : World) (m : Nat) => (zeros_any (u - n) (W.drewN m) (by omega)).mono fun e w' (h : _ ∧ _) => (⟨h.1, m, h.2.symm⟩ : e = .returned (.string (zb (u - n))) ∧ ∃ m, w' = W.drewN m))
    have e1 : ((u - n : Nat) : Int) = (u : Int) - (n : Int) := by omega
    rw [e1] at HZQ
    have c1 : (0 : Int) ≤ (a : Int) + (n : Int) := by omega
    have c2 : (a : Int) + (n : Int) ≤ (a : Int) + (n : Int) + ((u : Int) - (n : Int)) := by omega
    have c3 : (a : Int) + (n : Int) + ((u : Int) - (n : Int)) ≤ s.size := by omega
    have k2 : (a : Int) + (n : Int) + ((u : Int) - (n : Int)) = ((a + u : Nat) : Int) := by omega
    generalize zb (u - n) = Z at *
    clear e1
    cases zr with
    | true =>
      rw [if_pos rfl] at her
      subst her
      have de : ((s.extract (a + n) (a + u)).toList == Z.toList) = true := by rw [str_eq10]; exact decide_eq_true (hz.2 rfl)
      have k3 : (a : Int) + (n : Int) + ((u : Int) - (n : Int)) = ((a + u : Nat) : Int) := by omega
      clear hz h0
      go_enter Tryz.func99, Tryz.ntmps99
      go_wp2_with fail
      refine (HUP.out _).mono ?_
      rintro e w1 ⟨rfl, rfl⟩
      go_wp2
      go_quiet ((go_at_call 81; exact HZQ.out _ _))
      go_wp2
      go_ret2
      exact ⟨by simp, below_drewN _ _⟩
    | false =>
      rw [if_neg (by decide)] at her
      subst her
      have de : ((s.extract (a + n) (a + u)).toList == Z.toList) = false := by rw [str_eq10]; exact decide_eq_false (fun h => by have := hz.1 h; cases this)
      clear hz h0
      go_enter Tryz.func99, Tryz.ntmps99
      go_wp2_with fail
      refine (HUP.out _).mono ?_
      rintro e w1 ⟨rfl, rfl⟩
      go_wp2
      go_quiet ((go_at_call 81; exact HZQ.out _ _))
      go_wp2
      go_ret2
      exact ⟨rfl, below_drewN _ _⟩
end Go.Proofs.YtgfdbmbgldeljaaGreat
