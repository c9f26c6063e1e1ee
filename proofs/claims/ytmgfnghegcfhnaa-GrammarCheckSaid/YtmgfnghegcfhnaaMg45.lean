/- How a tree that came in is read. Conditions: values without a ring, as the row says. -/
import Derived.Test.YtmgfnghegcfhnaaMg10
namespace Go.Proofs.Ytmgfnghegcfhnaa
open Go.RowKit

theorem add_off (b off j : Nat) : (⟨b, off, none⟩ : Addr).add j = ⟨b, off + j, none⟩ := by unfold Addr.add; split <;> simp_all

set_option maxRecDepth 100000 in
set_option maxHeartbeats 1000000 in
/-- A slice of properties that came in. -/
theorem pr_of_trod {H : Type} {enc : TypeId × Value → H} {W : World} {fuel : Nat} {v : Value} {x : DataW H × List MemPlace}
    (hf : DataW.trod enc Try.prog W 0 (fun _ => true) true fuel 26 [v] = some x) : ∃ (A : Option Addr) (pc : Nat) (ps : List PR), v = .slice A ps.length pc ∧ RdPr W (fun k => k < W.heap.size) A ps ∧ ps.length ≤ pc ∧ pc ≤ maxLen := by
  rcases Deep.open_slice Try.underlying26 hf with ⟨hcs, _⟩ | ⟨a, len, cap, m, n, D, Pl, hcs, hb, hl, hm, hmm, _, hx⟩
  · simp at hcs
    subst hcs
    exact ⟨none, 0, [], rfl, .inl rfl, Nat.le_refl _, Nat.zero_le _⟩
  · simp at hcs
    subst hcs
    have hmc : m = cap := by simpa using hmm
    have cN : Try.prog.cellsOf 42 = 2 := by kernel_rfl
    have cs : Try.prog.cellsOf 9 = 1 := by kernel_rfl
    have each : ∀ i, i < len → ∃ x : PR, W.cell? (a.add (i * 2)) = some (.string x.nm) ∧ W.cell? (a.add (i * 2 + 1)) = some (.string x.vl) := by
      intro i hi
      obtain ⟨cs', h1, h2⟩ := hx i (by omega)
      rw [cN] at h1
      obtain ⟨_, hlen, hcell⟩ := World.cells?_some h1
      obtain ⟨xs, k, _, _, _, hxl, hfd⟩ := DataW.trod_struct Try.underlying42 h2
      match cs', hlen with
      | [v0, v1], _ =>
        have g0 := hfd 0 _ rfl
        have g1 := hfd 1 _ rfl
        simp [cs] at g0 g1
        have hxln : xs.length = 2 := by simpa using hxl
        rw [List.getElem?_eq_getElem (by omega)] at g0 g1
        obtain ⟨s0, e0, _, _⟩ := DataW.trod_string Try.underlying9 g0
        obtain ⟨s1, e1, _, _⟩ := DataW.trod_string Try.underlying9 g1
        injection e0 with e0
        injection e1 with e1
        subst e0 e1
        have q0 := hcell 0 (by omega)
        have q1 := hcell 1 (by omega)
        rw [Deep.add_add] at q0 q1
        exact ⟨⟨s0, s1⟩, by simpa using q0, by simpa using q1⟩
    obtain ⟨q, hq⟩ := @Deep.choose_lt PR ⟨pr0⟩ _ _ each
    have hlen : ((List.range len).map q).length = len := by simp
    have hget : ∀ k, k < len → ((List.range len).map q).getD k pr0 = q k := fun k hk => by
      rw [List.getD_eq_getElem?_getD, List.getElem?_map, List.getElem?_range hk]; rfl
    refine ⟨some a, cap, (List.range len).map q, by rw [hlen], ?_, by omega, hm⟩
    by_cases hp : 0 < len
    · obtain ⟨b, off, spot⟩ := a
      obtain rfl : spot = none := by simpa [Addr.add] using World.cell?_spot (hq 0 hp).1
      have h0 := (hq 0 hp).1
      rw [add_off] at h0
      refine .inr ⟨b, off, rfl, World.block_lt_of_cell? W _ h0, fun k hk => ?_⟩
      rw [hlen] at hk
      obtain ⟨q0, q1⟩ := hq k hk
      rw [add_off] at q0 q1
      rw [hget k hk]
      exact ⟨q0, by rw [Nat.add_assoc]; exact q1⟩
    · exact .inl (List.length_eq_zero_iff.1 (by omega))

set_option maxRecDepth 100000 in
set_option maxHeartbeats 1000000 in
theorem nd_of_trod {H : Type} {enc : TypeId × Value → H} {W : World} : ∀ (N fuel : Nat) (cs : List Value) (d : DataW H) (pl : List MemPlace), SizeOf.sizeOf d ≤ N →
    DataW.trod enc Try.prog W 0 (fun _ => true) true fuel 29 cs = some (d, pl) → ∃ (n : ND) (v2 v3 : Value), cs = [.string n.nm, v2, v3] ∧ NdAt W (fun k => k < W.heap.size) n v2 v3
  | 0, _, _, d, _, hN, _ => by cases d <;> simp at hN
  | N + 1, fuel, cs, d, pl, hN, h => by
    have c1 : Try.prog.cellsOf 9 = 1 := by kernel_rfl
    have c2 : Try.prog.cellsOf 26 = 1 := by kernel_rfl
    have c3 : Try.prog.cellsOf 27 = 1 := by kernel_rfl
    have cN : Try.prog.cellsOf 29 = 3 := by kernel_rfl
    obtain ⟨xs, k, _, hd, hcl, hxl, hfd⟩ := DataW.trod_struct Try.underlying29 h
    rw [cN] at hcl
    have hxln : xs.length = 3 := by simpa using hxl
    match cs, hcl with
    | [v0, v1, v2], _ =>
      have g0 := hfd 0 _ rfl
      have g1 := hfd 1 _ rfl
      have g2 := hfd 2 _ rfl
      simp [c1, c2, c3] at g0 g1 g2
      rw [List.getElem?_eq_getElem (by omega)] at g0 g1 g2
      obtain ⟨s0, e0, _, _⟩ := DataW.trod_string Try.underlying9 g0
      injection e0 with e0
      subst e0
      obtain ⟨A, pc, ps, rfl, hp, hpc, hpm⟩ := pr_of_trod g1
      have hmem : xs[2].1 ∈ xs.map (·.1) := List.mem_map.2 ⟨_, List.getElem_mem _, rfl⟩
      have hsz : SizeOf.sizeOf xs[2].1 ≤ N := by
        have h1 := List.sizeOf_lt_of_mem hmem
        injection hd with hd _
        rw [hd] at hN
        simp only [DataW.agg.sizeOf_spec] at hN
        omega
      rcases hx2 : xs[2] with ⟨d2, pl2⟩
      rw [hx2] at g2 hsz
      simp only at hsz
      rcases Deep.open_slice Try.underlying27 g2 with ⟨hcs, _⟩ | ⟨a, len, cap, m, n, D, Pl, hcs, hb, hl, hm, hmm, hdd, hx⟩
      · simp at hcs
        subst hcs
        exact ⟨.mk s0 ps [], _, _, rfl, .mk s0 ps [] A none pc 0 (fun _ => undef) (fun _ => undef) hp hpc hpm (Nat.le_refl _) (Nat.zero_le _) (.inl rfl) (fun i hi => absurd hi (Nat.not_lt_zero i))⟩
      · simp at hcs
        subst hcs
        have hmc : m = cap := by simpa using hmm
        rw [cN] at hx
        have each : ∀ i, i < len → ∃ x : ND × Value × Value, (W.cell? (a.add (i * 3)) = some (.string x.1.nm) ∧ W.cell? (a.add (i * 3 + 1)) = some x.2.1 ∧ W.cell? (a.add (i * 3 + 2)) = some x.2.2) ∧ NdAt W (fun k => k < W.heap.size) x.1 x.2.1 x.2.2 := by
          intro i hi
          obtain ⟨cs', h1, h2⟩ := hx i (by omega)
          obtain ⟨_, hlen, hcell⟩ := World.cells?_some h1
          have hDs : SizeOf.sizeOf (D i) ≤ N := by
            injection hdd with hdd _
            have hin : D i ∈ (List.range len).map D := List.mem_map.2 ⟨i, List.mem_range.2 hi, rfl⟩
            have h3 := List.sizeOf_lt_of_mem hin
            rw [hdd] at hsz
            simp only [DataW.slice.sizeOf_spec] at hsz
            omega
          obtain ⟨x, y, z, rfl, hn⟩ := nd_of_trod N n cs' (D i) (Pl i) hDs h2
          have q0 := hcell 0 (by omega)
          have q1 := hcell 1 (by omega)
          have q2 := hcell 2 (by omega)
          rw [Deep.add_add] at q0 q1 q2
          exact ⟨(x, y, z), ⟨by simpa using q0, by simpa using q1, by simpa using q2⟩, hn⟩
        obtain ⟨q, hq⟩ := @Deep.choose_lt (ND × Value × Value) ⟨(nd0, undef, undef)⟩ _ _ each
        have hlen : ((List.range len).map fun i => (q i).1).length = len := by simp
        have hget : ∀ k, k < len → ((List.range len).map fun i => (q i).1).getD k nd0 = (q k).1 := fun k hk => by
          rw [List.getD_eq_getElem?_getD, List.getElem?_map, List.getElem?_range hk]; rfl
        refine ⟨.mk s0 ps ((List.range len).map fun i => (q i).1), .slice A ps.length pc, .slice (some a) len cap, rfl, ?_⟩
        have hres := NdAt.mk (w := W) (G := fun k => k < W.heap.size) s0 ps ((List.range len).map fun i => (q i).1) A (some a) pc cap (fun i => (q i).2.1) (fun i => (q i).2.2) hp hpc hpm (by omega) hm ?_ ?_
        · rw [hlen] at hres; exact hres
        · by_cases hpo : 0 < len
          · obtain ⟨b, off, spot⟩ := a
            obtain rfl : spot = none := by simpa [Addr.add] using World.cell?_spot (hq 0 hpo).1.1
            have h0 := (hq 0 hpo).1.1
            rw [add_off] at h0
            refine .inr ⟨b, off, rfl, World.block_lt_of_cell? W _ h0, fun k hk => ?_⟩
            rw [hlen] at hk
            obtain ⟨⟨q0, q1, q2⟩, _⟩ := hq k hk
            rw [add_off] at q0 q1 q2
            rw [hget k hk]
            exact ⟨q0, by rw [Nat.add_assoc]; exact q1, by rw [Nat.add_assoc]; exact q2⟩
          · exact .inl (List.length_eq_zero_iff.1 (by omega))
        · intro i hi
          rw [hlen] at hi
          rw [hget i hi]
          exact (hq i hi).2
end Go.Proofs.Ytmgfnghegcfhnaa
