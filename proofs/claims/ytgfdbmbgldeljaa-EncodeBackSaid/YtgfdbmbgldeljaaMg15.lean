/- Append of one element, laid in a block of its own, in a region that draws its order: where the new slice lies; cells stored into a row of one's own. Conditions: fewer than 2^47 bytes. -/
import Derived.Test.YtgfdbmbgldeljaaMg14
import Derived.Laws.OwnMore
import Derived.Deep.AppendLies
import Derived.Deep.RegionHeld3
import Derived.Deep.DeepCutAuto
import Derived.Test.YtgfdbmbgldeljaaMg6
import Derived.Test.YtgfdbmbgldeljaaMg1
import Derived.ChangeArms
import Derived.Test.YtgfdbmbgldeljaaMg4
import Derived.Test.YtgfdbmbgldeljaaProg
import Derived.Test.YtgfdbmbgldeljaaMg0
import Derived.Test.YtgfdbmbgldeljaaMg8
import Derived.WalkKit
import Derived.Deep.Slices
namespace Go.Proofs.Ytgfdbmbgldeljaa
open Go.RowKit

section
variable {P : Program} {ops : Array Oper} {o : Oper} {a : Act} {Q : Exit → Act → World → Prop} {w : World}
theorem step_append_at {K : Act → World → Prop} {E : Prop} (hgd : o.guard = none) (s y : Operand) (t : TypeId) (ho : o.op = .call { callee := .builtin .append, args := #[s, y], argTypes := #[t, t] })
    (e size bytes : Nat) (hel : Hid (ElemN P t e size bytes)) (B : Nat) (v : Value) (n : Nat) (xs : List Value) (hs : a.eval s = v) (hown : w.ownsRow B e size v n xs) (b : Nat) (cs : Array Value) (hA : Arr w b e cs) (hcs : cs.size = size) (h1 : ∀ u ∈ cs.toList, u.oneCell' = true)
    (hx : a.eval y = .slice (some ⟨b, 0, none⟩) 1 1) (hm : n + 1 ≤ maxLen) (hb : (n + 1) * bytes ≤ 140737488355328) (hB : B ≤ w.heap.size)
    (h : ∀ g cap w', w'.ownsRow B e size (.slice (some ⟨g, 0, none⟩) (n + 1) cap) (n + 1) (xs ++ cs.toList) → w.grownBy w' v.ownBlock → (v.ownBlock = some g ∨ g = w.heap.size) → g < w'.heap.size → K (a.put o.dst (.slice (some ⟨g, 0, none⟩) (n + 1) cap)) w') : if Region.wanted o (yielded ops a.tmps) = true then Oper.wp P o a w K Q else E := by
  obtain ⟨h0, i, z, hi, hz0, hz1, hz2, hz3, hz4⟩ := hel.out
  exact step_append_lies w hgd s y t ho B e i z size bytes h0 hi hz0 hz1 hz2 hz3 hz4 v n xs hs hown ⟨b, 0, none⟩ 1 1 cs.toList hx (by rw [Array.length_toList, hcs, Nat.one_mul]) (World.news_of_block hA) h1 (by decide) hm hb hB _ rfl h
end
/-- Where it lies, as a footprint. -/
theorem ownS_lies {w : World} {v : Value} {g n cap : Nat} (h : v.ownBlock = some g ∨ g = w.heap.size) : ∀ k, ownS (.slice (some ⟨g, 0, none⟩) n cap) k → ownS v k ∨ w.heap.size ≤ k := fun k hk => by
  injection hk with hk
  subst hk
  rcases h with h | h
  · exact .inl h
  · exact .inr (Nat.le_of_eq h.symm)
theorem set_three (l : List Value) (a b c x y z : Value) (n : Nat) (hn : n = l.length) : (((l ++ [a, b, c]).set n x).set (n + 1) y).set (n + 2) z = l ++ [x, y, z] := by
  subst hn
  rw [List.set_append_right _ _ (Nat.le_refl _), List.set_append_right _ _ (by omega), List.set_append_right _ _ (by omega)]
  simp
theorem set_one (l : List Value) (a b c x : Value) (n : Nat) (hn : n = l.length) : (l ++ [a, b, c]).set (n + 1) x = l ++ [a, x, c] := by
  subst hn
  rw [List.set_append_right _ _ (by omega)]
  simp
theorem set_two (l : List Value) (a b c x : Value) (n : Nat) (hn : n = l.length) : (l ++ [a, b, c]).set (n + 2) x = l ++ [a, b, x] := by
  subst hn
  rw [List.set_append_right _ _ (by omega)]
  simp
/-- Three cells are stored into a row of one's own. -/
theorem row_three {w : World} {base e size g n cap : Nat} {xs ys : List Value} (h : w.ownsRow base e size (.slice (some ⟨g, 0, none⟩) n cap) n xs) (j : Nat) (x y z : Value) (hs : ((xs.set j x).set (j + 1) y).set (j + 2) z = ys) :
    (((w.setCell ⟨g, j, none⟩ x).setCell ⟨g, j + 1, none⟩ y).setCell ⟨g, j + 2, none⟩ z).ownsRow base e size (.slice (some ⟨g, 0, none⟩) n cap) n ys ∧ w.grownBy (((w.setCell ⟨g, j, none⟩ x).setCell ⟨g, j + 1, none⟩ y).setCell ⟨g, j + 2, none⟩ z) (some g) := by
  have h1 := h.stored j x
  have h2 := h1.1.stored (j + 1) y
  have h3 := h2.1.stored (j + 2) z
  subst hs
  exact ⟨h3.1, World.grownBy.trans h1.2 (World.grownBy.trans h2.2 h3.2)⟩
end Go.Proofs.Ytgfdbmbgldeljaa

/- The document's Reserve of layer 14; spans in a slice of the call's own. Conditions: strings of at most 2^40 bytes. -/
namespace Go.Proofs.Ytgfdbmbgldeljaa
open Go.RowKit

/-- Spans as the cells of a slice. -/
def spD (L : List SP) : List Value := L.flatMap fun x => [.int .i64 x.p, .int .i64 x.n]
theorem spD_length (L : List SP) : (spD L).length = L.length * 2 := by
  unfold spD
  induction L with
  | nil => rfl
  | cons x R ih => simp only [List.flatMap_cons, List.length_append, List.length_cons, List.length_nil, ih]; omega
theorem spD_get (R : List SP) {k : Nat} (hk : k < R.length) : (spD R)[k * 2]? = some (.int .i64 (R.getD k sp0).p) ∧ (spD R)[k * 2 + 1]? = some (.int .i64 (R.getD k sp0).n) := by
  induction R generalizing k with
  | nil => simp at hk
  | cons x R ih =>
    have e : spD (x :: R) = .int .i64 x.p :: .int .i64 x.n :: spD R := rfl
    cases k with
    | zero => exact ⟨rfl, rfl⟩
    | succ k =>
      obtain ⟨h1, h2⟩ := ih (k := k) (by simpa using hk)
      rw [e, show (k + 1) * 2 = k * 2 + 2 by omega]
      exact ⟨by simpa using h1, by simpa using h2⟩
theorem spD_app (L : List SP) (a b : Int) : spD (L ++ [⟨a, b⟩]) = spD L ++ [.int .i64 a, .int .i64 b] := by
  unfold spD
  rw [List.flatMap_append]
  rfl
/-- Where spans lie: in no block below B. -/
def SpFar (B : Nat) (A : Option Addr) (L : List SP) : Prop := L = [] ∨ ∃ b off, A = some ⟨b, off, none⟩ ∧ B ≤ b
/-- A slice of the call's own that holds spans reads as them. -/
theorem own_spD {w : World} {B : Nat} {v : Value} {R : List SP} (h : w.ownsRow B 44 2 v R.length (spD R)) : ∃ A cap, v = .slice A R.length cap ∧ RdSp w A R ∧ SpFar B A R := by
  have hlt := h.lt
  rcases h.2 with ⟨rfl, hz⟩ | ⟨b, cap, cur, rfl, _, hg, _, _, _, hx⟩
  · have hR : R = [] := List.length_eq_zero_iff.1 hz
    subst hR
    exact ⟨none, 0, rfl, .inl rfl, .inl rfl⟩
  · refine ⟨_, cap, rfl, .inr ⟨b, 0, rfl, fun k hk => ?_⟩, .inr ⟨b, 0, rfl, (hlt b rfl).1⟩⟩
    obtain ⟨h1, h2⟩ := spD_get R hk
    have e : ∀ j, j < R.length * 2 → cur[j]? = (spD R)[j]? := fun j hj => by
      rw [← hx, List.getElem?_take_of_lt hj, Array.getElem?_toList]
    refine ⟨?_, ?_⟩
    · rw [Nat.zero_add, cell_of_row w b _ cur _ (0, 0) hg, e _ (by omega), h1]
    · rw [Nat.zero_add, cell_of_row w b _ cur _ (0, 0) hg, e _ (by omega), h2]
theorem elemSpD : ElemN Try.prog 26 44 2 16 := elemN_mk (z := .agg #[.int .i64 0, .int .i64 0]) Try.underlying26 (by kernel_rfl) rfl (by decide)
theorem extk_list (s : ByteArray) (k n : Nat) : (s.extract k (k + n)).data.toList = (s.data.toList.drop k).take n := by
  have e : (s.extract k (k + n)).data = s.data.extract k (k + n) := ByteArray.data_extract
  rw [e, Array.toList_extract, List.extract_eq_take_drop, Nat.add_sub_cancel_left]
def resvI (k : Nat) (s : List UInt8) (x : Int) : List SP × Nat := if x < 0 then ([], 14) else resvR k (s.drop x.toNat)

end Go.Proofs.Ytgfdbmbgldeljaa

/- The document's Reserve of layer 15. Condition: a slice that reads as spans. -/
namespace Go.Proofs.Ytgfdbmbgldeljaa
open Go.RowKit

theorem okSp_no {x : SP} (h : x.p < 0 ∨ 4294967295 < x.p ∨ x.n < 0 ∨ 4294967295 < x.n ∨ (x.p = 0 ∧ x.n = 0)) : okSp x = false := by
  cases e : okSp x with
  | false => rfl
  | true => have := okSp_iff.1 e; omega
theorem spB_snoc : ∀ (l : List SP) (x : SP), spB (l ++ [x]) = spB l ++ bigs [0, x.p, 0, x.n] 4
  | [], x => by show bigs _ 4 ++ [] = [] ++ _; simp
  | y :: l, x => by
    show bigs _ 4 ++ spB (l ++ [x]) = (bigs _ 4 ++ spB l) ++ _
    rw [spB_snoc l x, List.append_assoc]
theorem spB_take (L : List SP) {k : Nat} (hk : k < L.length) {x : SP} (hx : L.getD k sp0 = x) : spB (L.take (k + 1)) = spB (L.take k) ++ bigs [0, x.p, 0, x.n] 4 := by
  have e : L.take (k + 1) = L.take k ++ [x] := by
    rw [List.take_succ_eq_append_getElem hk, ← hx, List.getD_eq_getElem?_getD, List.getElem?_eq_getElem hk]; rfl
  rw [e, spB_snoc]
end Go.Proofs.Ytgfdbmbgldeljaa

/- The document's answers for layer 11: whether a header is valid, Put, Read, Part. Conditions: numbers of 64 bits; strings of at most 2^40 bytes. -/
namespace Go.Proofs.Ytgfdbmbgldeljaa
open Go.RowKit

/-- Numbers of 64 bits. -/
def in64 (x : Int) : Prop := -9223372036854775808 ≤ x ∧ x < 9223372036854775808

end Go.Proofs.Ytgfdbmbgldeljaa

/- The document's Put and Part of layer 11. Conditions: numbers of 64 bits; strings of at most 2^40 bytes. -/
namespace Go.Proofs.Ytgfdbmbgldeljaa
open Go.RowKit

end Go.Proofs.Ytgfdbmbgldeljaa

/- The document's Read of layer 11. Conditions: strings of at most 2^40 bytes. -/
namespace Go.Proofs.Ytgfdbmbgldeljaa
open Go.RowKit

/-- Two results, the first a struct of the call's own. -/
theorem results_rowH {P : Program} {fn : Func} {p u : Tmp} {ty : TypeId} (h : fn.results = #[.cell p ty, .tmp u]) (tmps : Array Value) (w : World) (g : Nat) (t : TypeId) (cs : Array Value) (fr : Nat × Nat) (d : TypeDesc)
    (hp : tmps.getD p undef = .pointer (some ⟨g, 0, none⟩)) (hg : w.heap[g]? = some (.cells cs t fr))
    (hu : P.underlying ty = some d) (hd : (match d with | .struct _ | .array _ _ => true | _ => false) = true) (hi : (P.info? ty).map (·.size) = some cs.size) :
    (results fn tmps).run P w = .ok (.tuple #[.agg cs, tmps.getD u undef]) w := by
  have e : (results fn tmps).run P w = ((asAddr (tmps.getD p undef)).run P w).andThen fun a w₁ => ((loadVar ty a).run P w₁).andThen fun x w₂ => .ok (.tuple #[x, tmps.getD u undef]) w₂ := by
    simp only [results, h]
    simp [Sem.run_bind, Result.andThen]
  rw [e, hp]
  simp [asAddr, run_loadVar_row w g t ty cs fr d hg hu hd hi, Result.andThen]
theorem hdC_one (h : HD) : (hdC h).all (·.oneCell') = true := by
  rw [Array.all_eq_true_iff_forall_mem]
  intro v hv
  simp [hdC] at hv
  rcases hv with rfl | rfl | rfl | rfl | rfl | rfl | rfl <;> rfl
theorem infoH (h : HD) : (Try.prog.info? 54).map (·.size) = some (hdC h).size := by kernel_rfl
theorem ext0_list (s : ByteArray) (k : Nat) : (s.extract 0 k).data.toList = s.data.toList.take k := by
  have e : (s.extract 0 k).data = s.data.extract 0 k := ByteArray.data_extract
  rw [e, Array.toList_extract, List.extract_eq_take_drop]
  simp

end Go.Proofs.Ytgfdbmbgldeljaa

/- Trees in memory, and how a tree that came in is read. Conditions: values without a ring, as the row says. -/
namespace Go.Proofs.Ytgfdbmbgldeljaa
open Go.RowKit

/-- A property lies at a place. -/
def PrAt (w : World) (b o : Nat) (x : PR) : Prop := w.cell? ⟨b, o, none⟩ = some (.string x.nm) ∧ w.cell? ⟨b, o + 1, none⟩ = some (.string x.vl)
/-- The slice at A, in a block of G, reads as the properties l. -/
def RdPr (w : World) (G : Nat → Prop) (A : Option Addr) (l : List PR) : Prop := l = [] ∨ ∃ b off, A = some ⟨b, off, none⟩ ∧ G b ∧ ∀ k, k < l.length → PrAt w b (off + k * 2) (l.getD k pr0)
/-- A node's name, and two slices, are a tree, all in blocks of G. -/
inductive NdAt (w : World) (G : Nat → Prop) : ND → Value → Value → Prop
  | mk (nm : ByteArray) (ps : List PR) (ks : List ND) (A K : Option Addr) (pc kc : Nat) (p q : Nat → Value)
      (hp : RdPr w G A ps) (hpc : ps.length ≤ pc) (hpm : pc ≤ maxLen) (hkc : ks.length ≤ kc) (hkm : kc ≤ maxLen)
      (hK : ks = [] ∨ ∃ b off, K = some ⟨b, off, none⟩ ∧ G b ∧ ∀ i, i < ks.length → w.cell? ⟨b, off + i * 3, none⟩ = some (.string (ks.getD i nd0).nm) ∧ w.cell? ⟨b, off + i * 3 + 1, none⟩ = some (p i) ∧ w.cell? ⟨b, off + i * 3 + 2, none⟩ = some (q i))
      (hk : ∀ i, i < ks.length → NdAt w G (ks.getD i nd0) (p i) (q i)) : NdAt w G (.mk nm ps ks) (.slice A ps.length pc) (.slice K ks.length kc)

theorem cell_kept {w w' : World} {F F' : Nat → Prop} (hm : Moved w w' F F') {b o : Nat} (hF : ¬ F b) {v : Value} (h : w.cell? ⟨b, o, none⟩ = some v) : w'.cell? ⟨b, o, none⟩ = some v := by
  have hlt : b < w.heap.size := World.block_lt_of_cell? w _ h
  rw [World.cell?_of_block (a := ⟨b, o, none⟩) (hm.block b hlt hF)]
  exact h
theorem RdPr.kept {w w' : World} {G F F' : Nat → Prop} {A : Option Addr} {l : List PR} (h : RdPr w G A l) (hm : Moved w w' F F') (hd : ∀ k, G k → ¬ F k) : RdPr w' G A l := by
  rcases h with h | ⟨b, off, rfl, hg, hc⟩
  · exact .inl h
  · exact .inr ⟨b, off, rfl, hg, fun k hk => ⟨cell_kept hm (hd b hg) (hc k hk).1, cell_kept hm (hd b hg) (hc k hk).2⟩⟩
theorem NdAt.kept {w w' : World} {G F F' : Nat → Prop} {n : ND} {v2 v3 : Value} (h : NdAt w G n v2 v3) (hm : Moved w w' F F') (hd : ∀ k, G k → ¬ F k) : NdAt w' G n v2 v3 := by
  induction h with
  | mk nm ps ks A K pc kc p q hp hpc hpm hkc hkm hK hk ih =>
    refine .mk nm ps ks A K pc kc p q (hp.kept hm hd) hpc hpm hkc hkm ?_ ih
    rcases hK with h | ⟨b, off, rfl, hg, hc⟩
    · exact .inl h
    · exact .inr ⟨b, off, rfl, hg, fun i hi => ⟨cell_kept hm (hd b hg) (hc i hi).1, cell_kept hm (hd b hg) (hc i hi).2.1, cell_kept hm (hd b hg) (hc i hi).2.2⟩⟩
theorem nd_below {w w' : World} {G : Nat → Prop} {n : ND} {v2 v3 : Value} (h : NdAt w G n v2 v3) (hb : Below w.heap.size w w') : NdAt w' G n v2 v3 := h.kept (Moved.of_below hb (fun _ => False)) (fun _ _ h => h)
theorem RdPr.below {w w' : World} {G : Nat → Prop} {A : Option Addr} {l : List PR} (h : RdPr w G A l) (hb : Below w.heap.size w w') : RdPr w' G A l := h.kept (Moved.of_below hb (fun _ => False)) (fun _ _ h => h)
theorem RdPr.mono {w : World} {G G' : Nat → Prop} {A : Option Addr} {l : List PR} (h : RdPr w G A l) (hg : ∀ k, G k → G' k) : RdPr w G' A l := by
  rcases h with h | ⟨b, off, rfl, hb, hc⟩
  · exact .inl h
  · exact .inr ⟨b, off, rfl, hg b hb, hc⟩
theorem NdAt.mono {w : World} {G G' : Nat → Prop} {n : ND} {v2 v3 : Value} (h : NdAt w G n v2 v3) (hg : ∀ k, G k → G' k) : NdAt w G' n v2 v3 := by
  induction h with
  | mk nm ps ks A K pc kc p q hp hpc hpm hkc hkm hK hk ih =>
    refine .mk nm ps ks A K pc kc p q (hp.mono hg) hpc hpm hkc hkm ?_ ih
    rcases hK with h | ⟨b, off, rfl, hb, hc⟩
    · exact .inl h
    · exact .inr ⟨b, off, rfl, hg b hb, hc⟩
theorem nd_lt {w : World} {G : Nat → Prop} {n : ND} {v2 v3 : Value} (h : NdAt w G n v2 v3) : NdAt w (fun k => k < w.heap.size) n v2 v3 := by
  induction h with
  | mk nm ps ks A K pc kc p q hp hpc hpm hkc hkm hK hk ih =>
    refine .mk nm ps ks A K pc kc p q ?_ hpc hpm hkc hkm ?_ ih
    · rcases hp with h | ⟨b, off, rfl, hb, hc⟩
      · exact .inl h
      · by_cases h0 : ps.length = 0
        · exact .inl (List.length_eq_zero_iff.1 h0)
        · exact .inr ⟨b, off, rfl, World.block_lt_of_cell? w _ (hc 0 (by omega)).1, hc⟩
    · rcases hK with h | ⟨b, off, rfl, hb, hc⟩
      · exact .inl h
      · by_cases h0 : ks.length = 0
        · exact .inl (List.length_eq_zero_iff.1 h0)
        · exact .inr ⟨b, off, rfl, World.block_lt_of_cell? w _ (hc 0 (by omega)).1, hc⟩
/-- A tree stays where one block beyond it has changed. -/
theorem nd_grown {w w' : World} {B g : Nat} {n : ND} {v2 v3 : Value} (h : NdAt w (fun k => k < B) n v2 v3) (hg : w.grownBy w' (some g)) (hB : B ≤ g) : NdAt w' (fun k => k < B) n v2 v3 :=
  h.kept (F := fun k => k = g) (F' := fun k => k = g) (Moved.grown hg (fun k hk => by injection hk with hk; exact hk.symm) (fun k hk => .inl hk)) (fun k hk e => by subst e; omega)
/-- A property of a slice. -/
theorem RdPr.at_ {w : World} {G : Nat → Prop} {A : Option Addr} {l : List PR} (h : RdPr w G A l) {k : Nat} (hk : k < l.length) : ∃ b off x, A = some ⟨b, off, none⟩ ∧ PrAt w b (off + k * 2) x ∧ Hid (l.getD k pr0 = x) := by
  rcases h with rfl | ⟨b, off, rfl, _, hc⟩
  · simp at hk
  · exact ⟨b, off, _, rfl, hc k hk, rfl⟩
/-- A tree's two slices. -/
theorem nd_shape {w : World} {G : Nat → Prop} {n : ND} {v2 v3 : Value} (h : NdAt w G n v2 v3) : ∃ A K pc kc, v2 = .slice A n.ps.length pc ∧ v3 = .slice K n.ks.length kc ∧ n.ps.length ≤ pc ∧ pc ≤ maxLen ∧ n.ks.length ≤ kc ∧ kc ≤ maxLen := by
  cases h with
  | mk nm ps ks A K pc kc p q hp hpc hpm hkc hkm hK hk => exact ⟨A, K, pc, kc, rfl, rfl, hpc, hpm, hkc, hkm⟩
theorem nd_prop {w : World} {G : Nat → Prop} {n : ND} {A : Option Addr} {l pc : Nat} {v3 : Value} (h : NdAt w G n (.slice A l pc) v3) {k : Nat} (hk : k < n.ps.length) : ∃ b off x, A = some ⟨b, off, none⟩ ∧ PrAt w b (off + k * 2) x ∧ Hid (n.ps.getD k pr0 = x) := by
  cases h with
  | mk nm ps ks A K pc kc p q hp => exact hp.at_ hk
/-- A kid of a node. -/
theorem nd_kid {w : World} {G : Nat → Prop} {n : ND} {v2 : Value} {K : Option Addr} {l kc : Nat} (h : NdAt w G n v2 (.slice K l kc)) {k : Nat} (hk : k < n.ks.length) :
    ∃ b off x y z, K = some ⟨b, off, none⟩ ∧ w.cell? ⟨b, off + k * 3, none⟩ = some (.string x.nm) ∧ w.cell? ⟨b, off + k * 3 + 1, none⟩ = some y ∧ w.cell? ⟨b, off + k * 3 + 2, none⟩ = some z ∧ NdAt w G x y z ∧ Hid (n.ks.getD k nd0 = x) := by
  cases h with
  | mk nm ps ks A K pc kc p q hp hpc hpm hkc hkm hK hk' =>
    rcases hK with rfl | ⟨b, off, rfl, _, hc⟩
    · simp [ND.ks] at hk
    · obtain ⟨h1, h2, h3⟩ := hc k hk
      exact ⟨b, off, _, _, _, rfl, h1, h2, h3, hk' k hk, rfl⟩
theorem nd_props {w : World} {G : Nat → Prop} {n : ND} {A : Option Addr} {l pc : Nat} {v3 : Value} (h : NdAt w G n (.slice A l pc) v3) : RdPr w G A n.ps ∧ l = n.ps.length := by
  cases h with
  | mk nm ps ks A K pc kc p q hp => exact ⟨hp, rfl⟩
end Go.Proofs.Ytgfdbmbgldeljaa
