/- How a tree with its reserved spans that came in is read. Conditions: values without a ring, as the row says. -/
import Derived.Test.YtgfdbmbgldeljaaGreatMg47
import Derived.Test.YtgfdbmbgldeljaaGreatMg25
import Derived.OpenShut
namespace Go.Proofs.YtgfdbmbgldeljaaGreat
open Go.RowKit Go.ChangeShapes Go.WideShapes

set_option maxRecDepth 100000 in
set_option maxHeartbeats 1000000 in
/-- A slice of spans that came in. -/
theorem sp_of_trod {H : Type} {enc : TypeId × Value → H} {W : World} {fuel : Nat} {v : Value} {x : DataW H × List MemPlace}
    (hf : DataW.trod enc Tryz.prog W 0 (fun _ => true) true fuel 26 [v] = some x) : ∃ (A : Option Addr) (pc : Nat) (ps : List SP), v = .slice A ps.length pc ∧ RdSp W A ps ∧ SpIn ps ∧ ps.length ≤ pc ∧ pc ≤ maxLen := by
  rcases Deep.open_slice Tryz.underlying26 hf with ⟨hcs, _⟩ | ⟨a, len, cap, m, n, D, Pl, hcs, hb, hl, hm, hmm, _, hx⟩
  · simp at hcs
    subst hcs
    exact ⟨none, 0, [], rfl, .inl rfl, (fun x hx => absurd hx List.not_mem_nil), Nat.le_refl _, Nat.zero_le _⟩
  · simp at hcs
    subst hcs
    have hmc : m = cap := by simpa using hmm
    have cN : Tryz.prog.cellsOf 41 = 2 := by kernel_rfl
    have ci : Tryz.prog.cellsOf 3 = 1 := by kernel_rfl
    have each : ∀ i, i < len → ∃ x : SP, (W.cell? (a.add (i * 2)) = some (.int .i64 x.p) ∧ W.cell? (a.add (i * 2 + 1)) = some (.int .i64 x.n)) ∧ in64 x.p ∧ in64 x.n := by
      intro i hi
      obtain ⟨cs', h1, h2⟩ := hx i (by omega)
      rw [cN] at h1
      obtain ⟨_, hlen, hcell⟩ := World.cells?_some h1
      obtain ⟨xs, k, _, _, _, hxl, hfd⟩ := DataW.trod_struct Tryz.underlying41 h2
      match cs', hlen with
      | [v0, v1], _ =>
        have g0 := hfd 0 _ rfl
        have g1 := hfd 1 _ rfl
        simp [ci] at g0 g1
        have hxln : xs.length = 2 := by simpa using hxl
        rw [List.getElem?_eq_getElem (by omega)] at g0 g1
        obtain ⟨i0, e0, _, b0⟩ := DataW.trod_int Tryz.underlying3 g0
        obtain ⟨i1, e1, _, b1⟩ := DataW.trod_int Tryz.underlying3 g1
        injection e0 with e0
        injection e1 with e1
        subst e0 e1
        have q0 := hcell 0 (by omega)
        have q1 := hcell 1 (by omega)
        rw [Deep.add_add] at q0 q1
        have w0 := bounds_i64 b0
        have w1 := bounds_i64 b1
        exact ⟨⟨i0, i1⟩, ⟨by simpa using q0, by simpa using q1⟩, by simp only; unfold in64; omega, by simp only; unfold in64; omega⟩
    obtain ⟨q, hq⟩ := @Deep.choose_lt SP ⟨sp0⟩ _ _ each
    have hlen : ((List.range len).map q).length = len := by simp
    have hget : ∀ k, k < len → ((List.range len).map q).getD k sp0 = q k := fun k hk => by
      rw [List.getD_eq_getElem?_getD, List.getElem?_map, List.getElem?_range hk]; rfl
    refine ⟨some a, cap, (List.range len).map q, by rw [hlen], ?_, fun x hx => ?_, by omega, hm⟩
    · by_cases hpo : 0 < len
      · obtain ⟨b, off, spot⟩ := a
        obtain rfl : spot = none := by simpa [Addr.add] using World.cell?_spot (hq 0 hpo).1.1
        refine .inr ⟨b, off, rfl, fun k hk => ?_⟩
        rw [hlen] at hk
        obtain ⟨⟨q0, q1⟩, _⟩ := hq k hk
        rw [add_off] at q0 q1
        rw [hget k hk]
        exact ⟨q0, by rw [Nat.add_assoc]; exact q1⟩
      · exact .inl (List.length_eq_zero_iff.1 (by omega))
    · obtain ⟨k, hk, rfl⟩ := List.mem_map.1 hx
      exact (hq k (List.mem_range.1 hk)).2

set_option maxRecDepth 100000 in
set_option maxHeartbeats 1000000 in
/-- A tree that came in. -/
theorem dt_of_trod {H : Type} {enc : TypeId × Value → H} {W : World} {fuel : Nat} {cs : List Value} {x : DataW H × List MemPlace}
    (h : DataW.trod enc Tryz.prog W 0 (fun _ => true) true fuel 28 cs = some x) : ∃ (T : DT) (v2 v3 : Value) (A : Option Addr) (cap : Nat), cs = [.string T.rt.nm, v2, v3, .slice A T.rs.length cap, .int .i64 T.bo] ∧ DtAt W T v2 v3 A ∧ DtIn T ∧ T.rs.length ≤ cap ∧ cap ≤ maxLen := by
  have c1 : Tryz.prog.cellsOf 25 = 3 := by kernel_rfl
  have c2 : Tryz.prog.cellsOf 26 = 1 := by kernel_rfl
  have c3 : Tryz.prog.cellsOf 3 = 1 := by kernel_rfl
  have cN : Tryz.prog.cellsOf 28 = 5 := by kernel_rfl
  obtain ⟨xs, k, _, hd, hcl, hxl, hfd⟩ := DataW.trod_struct Tryz.underlying28 h
  rw [cN] at hcl
  have hxln : xs.length = 3 := by simpa using hxl
  match cs, hcl with
  | [v0, v1, v2, v3, v4], _ =>
    have g0 := hfd 0 _ rfl
    have g1 := hfd 1 _ rfl
    have g2 := hfd 2 _ rfl
    simp [c1, c2, c3] at g0 g1 g2
    rw [List.getElem?_eq_getElem (by omega)] at g0 g1 g2
    rcases hx0 : xs[0] with ⟨d0, pl0⟩
    rw [hx0] at g0
    obtain ⟨n, y, z, e0, hn⟩ := nd_of_trod _ _ _ _ _ (Nat.le_refl _) g0
    obtain ⟨A, pc, ps, e1, hp, hin, hpc, hpm⟩ := sp_of_trod g1
    obtain ⟨i2, e2, _, b2⟩ := DataW.trod_int Tryz.underlying3 g2
    injection e0 with e00 e0
    injection e0 with e01 e0
    injection e0 with e02 e0
    injection e2 with e2
    subst e00 e01 e02 e1 e2
    have w2 := bounds_i64 b2
    exact ⟨⟨n, ps, i2⟩, _, _, A, pc, rfl, ⟨hn, hp⟩, ⟨by show in64 i2; unfold in64; omega, hin⟩, hpc, hpm⟩
end Go.Proofs.YtgfdbmbgldeljaaGreat
