/- Spans in a slice of the call's own; append of a slice that only reads. Conditions: fewer than 2^47 bytes. -/
import Derived.Test.YtgfblcfleohdjaaRaM
import Derived.Test.YtgfblcfleohdjaaAppM
namespace Go.Proofs.Ytgfblcfleohdjaa
open Go.RowKit

/-- Spans as the cells of a slice. -/
def spD (L : List SP) : List Value := L.flatMap fun x => [.int .i64 x.p, .int .i64 x.n]
theorem spD_length (L : List SP) : (spD L).length = L.length * 2 := by
  unfold spD
  induction L with
  | nil => rfl
  | cons x R ih => simp only [List.flatMap_cons, List.length_append, List.length_cons, List.length_nil, ih]; omega
theorem spD_get (R : List SP) {k : Nat} (hk : k < R.length) : (spD R)[k * 2]? = some (.int .i64 (R.getD k sp0).p) ∧ (spD R)[k * 2 + 1]? = some (.int .i64 (R.getD k sp0).n) := by
  induction R generalizing k with
  | nil => simp at hk
  | cons x R ih =>
    have e : spD (x :: R) = .int .i64 x.p :: .int .i64 x.n :: spD R := rfl
    cases k with
    | zero => exact ⟨rfl, rfl⟩
    | succ k =>
      obtain ⟨h1, h2⟩ := ih (k := k) (by simpa using hk)
      rw [e, show (k + 1) * 2 = k * 2 + 2 by omega]
      exact ⟨by simpa using h1, by simpa using h2⟩
theorem spD_app (L : List SP) (a b : Int) : spD (L ++ [⟨a, b⟩]) = spD L ++ [.int .i64 a, .int .i64 b] := by
  unfold spD
  rw [List.flatMap_append]
  rfl
/-- Where spans lie: in no block below B. -/
def SpFar (B : Nat) (A : Option Addr) (L : List SP) : Prop := L = [] ∨ ∃ b off, A = some ⟨b, off, none⟩ ∧ B ≤ b
/-- A slice of the call's own that holds spans reads as them. -/
theorem own_spD {w : World} {B : Nat} {v : Value} {R : List SP} (h : w.ownsRow B 24 2 v R.length (spD R)) : ∃ A cap, v = .slice A R.length cap ∧ RdSp w A R ∧ SpFar B A R := by
  have hlt := h.lt
  rcases h.2 with ⟨rfl, hz⟩ | ⟨b, cap, cur, rfl, _, hg, _, _, _, hx⟩
  · have hR : R = [] := List.length_eq_zero_iff.1 hz
    subst hR
    exact ⟨none, 0, rfl, .inl rfl, .inl rfl⟩
  · refine ⟨_, cap, rfl, .inr ⟨b, 0, rfl, fun k hk => ?_⟩, .inr ⟨b, 0, rfl, (hlt b rfl).1⟩⟩
    obtain ⟨h1, h2⟩ := spD_get R hk
    have e : ∀ j, j < R.length * 2 → cur[j]? = (spD R)[j]? := fun j hj => by
      rw [← hx, List.getElem?_take_of_lt hj, Array.getElem?_toList]
    refine ⟨?_, ?_⟩
    · rw [Nat.zero_add, cell_of_row w b _ cur _ (0, 0) hg, e _ (by omega), h1]
    · rw [Nat.zero_add, cell_of_row w b _ cur _ (0, 0) hg, e _ (by omega), h2]
theorem elemSpD : ElemN Try.prog 22 24 2 16 := elemN_mk (z := .agg #[.int .i64 0, .int .i64 0]) Try.underlying22 (by kernel_rfl) rfl (by decide)
theorem spD_cells (L : List SP) : ∀ u ∈ spD L, u.oneCell' = true := fun u hu => by
  obtain ⟨x, _, hx⟩ := List.mem_flatMap.1 hu
  simp at hx
  rcases hx with rfl | rfl <;> rfl
theorem spD_two (L M : List SP) : spD (L ++ M) = spD L ++ spD M := List.flatMap_append
theorem spD_news {w : World} {b off : Nat} {L : List SP} (hr : ∀ k, k < L.length → SpAt w b (off + k * 2) (L.getD k sp0)) (j : Nat) (u : Value) (hj : (spD L)[j]? = some u) : w.cell? ⟨b, off + j, none⟩ = some u := by
  have hlt := (List.getElem?_eq_some_iff.1 hj).1
  rw [spD_length] at hlt
  obtain ⟨h1, h2⟩ := spD_get L (k := j / 2) (by omega)
  obtain ⟨c1, c2⟩ := hr (j / 2) (by omega)
  rcases Nat.mod_two_eq_zero_or_one j with h | h
  · have e : j / 2 * 2 = j := by omega
    rw [e] at h1 c1
    rw [hj] at h1
    rw [c1, h1]
  · have e : j / 2 * 2 + 1 = j := by omega
    rw [e] at h2
    rw [Nat.add_assoc, e] at c2
    rw [hj] at h2
    rw [c2, h2]
theorem spD_take {w : World} {A : Option Addr} {L : List SP} (h : RdSp w A L) {k : Nat} (hk : k ≤ L.length) : k = 0 ∨ ∃ b off, A = some ⟨b, off, none⟩ ∧ ∀ j u, (spD (L.take k))[j]? = some u → w.cell? ⟨b, off + j, none⟩ = some u := by
  rcases h with rfl | ⟨b, off, rfl, hc⟩
  · exact .inl (by simpa using hk)
  · refine .inr ⟨b, off, rfl, fun j u hj => spD_news (L := L.take k) (fun i hi => ?_) j u hj⟩
    rw [List.length_take] at hi
    have e : (L.take k).getD i sp0 = L.getD i sp0 := by rw [List.getD_eq_getElem?_getD, List.getD_eq_getElem?_getD, List.getElem?_take_of_lt (by omega)]
    rw [e]; exact hc i (by omega)
theorem spD_drop {w : World} {b off : Nat} {L : List SP} (h : RdSp w (some ⟨b, off, none⟩) L) (k : Nat) (j : Nat) (u : Value) (hj : (spD (L.drop k))[j]? = some u) : w.cell? ⟨b, off + k * 2 + j, none⟩ = some u := by
  refine spD_news (L := L.drop k) (off := off + k * 2) (fun i hi => ?_) j u hj
  rw [List.length_drop] at hi
  have e : (L.drop k).getD i sp0 = L.getD (k + i) sp0 := by rw [List.getD_eq_getElem?_getD, List.getD_eq_getElem?_getD, List.getElem?_drop]
  have e2 : off + k * 2 + i * 2 = off + (k + i) * 2 := by omega
  rw [e, e2]
  rcases h with rfl | ⟨b', off', e', hc⟩
  · simp at hi
  · injection e' with e'
    injection e' with e1 e2 _
    subst e1 e2
    exact hc (k + i) (by omega)
section
variable {P : Program} {ops : Array Oper} {rest : List Oper} {o : Oper} {a : Act} {Q : Exit → Act → World → Prop} {w : World}
theorem run_append_zero {P : Program} (w : World) (t ty e : TypeId) (i : TypeInfo) (ht : P.underlying t = some (.slice e)) (hi : P.info? e = some i) (A : Option Addr) (n c c' : Nat) (hc : n ≤ c) :
    (Builtin.append_ #[t, t] ty #[.slice A n c, .slice none 0 c']).run P w = .ok (.slice A n c) w := by
  cases A with
  | none => simp [Builtin.append_, run_underlying ht, sizeOf, typeInfo, hi, Builtin.lenOf, Builtin.firstCells, hc]
  | some a => simp [Builtin.append_, run_underlying ht, sizeOf, typeInfo, hi, Builtin.lenOf, Builtin.firstCells, hc, storeCells]
/-- 's = append(s, r...)', r a slice that only reads. -/
theorem append_read (hgd : o.guard = none) (s y : Operand) (t : TypeId) (ho : o.op = .call { callee := .builtin .append, args := #[s, y], argTypes := #[t, t] })
    (e size bytes : Nat) (hel : Hid (ElemN P t e size bytes)) (v : Value) (n m : Nat) (xs ys : List Value) (hs : a.eval s = v) (hown : w.ownsRow 0 e size v n xs) (A : Option Addr) (c : Nat) (hx : a.eval y = .slice A m c) (hyl : ys.length = m * size)
    (hr : m = 0 ∨ ∃ b off, A = some ⟨b, off, none⟩ ∧ ∀ j u, ys[j]? = some u → w.cell? ⟨b, off + j, none⟩ = some u) (h1 : ∀ x ∈ ys, x.oneCell' = true)
    (hm : n + m ≤ maxLen) (hb : (n + m) * bytes ≤ 140737488355328)
    (h : ∀ v' w', w'.ownsRow 0 e size v' (n + m) (xs ++ ys) → Moved w w' (ownS v) (ownS v') → wpList P ops Q rest (a.put o.dst v') w') : wpList P ops Q (o :: rest) a w := by
  obtain ⟨h0, i, z, hi, hz0, hz1, hz2, hz3, hz4⟩ := hel.out
  have hgo : ∀ ad, A = some ad → (∀ j u, ys[j]? = some u → w.cell? (ad.add j) = some u) → wpList P ops Q (o :: rest) a w := fun ad e hc => by
    subst e
    refine wpList_append_own_at _ hgd s y t ho 0 e i z size bytes h0 hi hz0 hz1 hz2 hz3 hz4 v n xs hs hown ad m c ys hx hyl hc h1 hm hb (Nat.zero_le _) ?_
    intro v' w' ho' hg _ hl
    exact h v' w' ho' (Moved.of_grown hg (hl.imp id fun hl => ⟨_, hl, Nat.le_refl _⟩))
  rcases hr with rfl | ⟨b, off, rfl, hc⟩
  · have hy0 : ys = [] := List.length_eq_zero_iff.1 (by omega)
    subst hy0
    cases A with
    | some ad => exact hgo ad rfl fun j u hj => by simp at hj
    | none =>
      obtain ⟨A', cap, hv, hcap⟩ := slice_ofN hown
      have hrun := run_append_zero (P := P) w t o.type e i h0 hi A' n cap c hcap
      refine wpList_plain hgd fun K hK => ?_
      unfold Oper.wp execOp
      simp only [ho, resolve, invoke, builtin, Sem.run_bind, Sem.run_pure, Result.andThen_ok, List.map_toArray, List.map_cons, List.map_nil, hs, hv, hx, hrun]
      refine hK _ _ (h _ _ ?_ ?_)
      · rw [List.append_nil, Nat.add_zero, ← hv]; exact hown
      · rw [hv]; exact Moved.refl _ _
  · exact hgo _ rfl fun j u hj => by
      have e : (⟨b, off, none⟩ : Addr).add j = ⟨b, off + j, none⟩ := by unfold Addr.add; split <;> simp_all
      rw [e]; exact hc j u hj
end
end Go.Proofs.Ytgfblcfleohdjaa
