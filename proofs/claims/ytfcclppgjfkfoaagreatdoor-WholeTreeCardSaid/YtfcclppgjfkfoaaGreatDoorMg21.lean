/- Spans in a slice of the call's own; append of a slice that only reads. Conditions: fewer than 2^47 bytes. -/
import Derived.Test.YtfcclppgjfkfoaaGreatDoorMg20
import Derived.Test.YtfcclppgjfkfoaaGreatDoorMg6
import Derived.Test.YtfcclppgjfkfoaaGreatDoorMg17
import Derived.Test.YtfcclppgjfkfoaaGreatDoorMg3
import Derived.Test.YtfcclppgjfkfoaaGreatDoorMg16
import Derived.ChangeArms
import Derived.Deep.DeepCutAuto
import Derived.Deep.RegionHeld3
import Derived.Test.YtfcclppgjfkfoaaGreatDoorMg19
import Derived.Test.YtfcclppgjfkfoaaGreatDoorMg7
import Derived.Test.YtfcclppgjfkfoaaGreatDoorMg8
import Derived.Deep.RegionLaw
import Derived.Deep.AppendLies
import Derived.Test.YtfcclppgjfkfoaaGreatDoorMg15
namespace Go.Proofs.YtfcclppgjfkfoaaGreatDoor
open Go.RowKit

/-- Spans as the cells of a slice. -/
def spD (L : List SP) : List Value := L.flatMap fun x => [.int .i64 x.p, .int .i64 x.n]
theorem spD_length (L : List SP) : (spD L).length = L.length * 2 := by
  unfold spD
  induction L with
  | nil => rfl
  | cons x R ih => simp only [List.flatMap_cons, List.length_append, List.length_cons, List.length_nil, ih]; omega
theorem spD_get (R : List SP) {k : Nat} (hk : k < R.length) : (spD R)[k * 2]? = some (.int .i64 (R.getD k sp0).p) ∧ (spD R)[k * 2 + 1]? = some (.int .i64 (R.getD k sp0).n) := by
  induction R generalizing k with
  | nil => simp at hk
  | cons x R ih =>
    have e : spD (x :: R) = .int .i64 x.p :: .int .i64 x.n :: spD R := rfl
    cases k with
    | zero => exact ⟨rfl, rfl⟩
    | succ k =>
      obtain ⟨h1, h2⟩ := ih (k := k) (by simpa using hk)
      rw [e, show (k + 1) * 2 = k * 2 + 2 by omega]
      exact ⟨by simpa using h1, by simpa using h2⟩
theorem spD_app (L : List SP) (a b : Int) : spD (L ++ [⟨a, b⟩]) = spD L ++ [.int .i64 a, .int .i64 b] := by
  unfold spD
  rw [List.flatMap_append]
  rfl
/-- Where spans lie: in no block below B. -/
def SpFar (B : Nat) (A : Option Addr) (L : List SP) : Prop := L = [] ∨ ∃ b off, A = some ⟨b, off, none⟩ ∧ B ≤ b
/-- A slice of the call's own that holds spans reads as them. -/
theorem own_spD {w : World} {B : Nat} {v : Value} {R : List SP} (h : w.ownsRow B 80 2 v R.length (spD R)) : ∃ A cap, v = .slice A R.length cap ∧ RdSp w A R ∧ SpFar B A R := by
  have hlt := h.lt
  rcases h.2 with ⟨rfl, hz⟩ | ⟨b, cap, cur, rfl, _, hg, _, _, _, hx⟩
  · have hR : R = [] := List.length_eq_zero_iff.1 hz
    subst hR
    exact ⟨none, 0, rfl, .inl rfl, .inl rfl⟩
  · refine ⟨_, cap, rfl, .inr ⟨b, 0, rfl, fun k hk => ?_⟩, .inr ⟨b, 0, rfl, (hlt b rfl).1⟩⟩
    obtain ⟨h1, h2⟩ := spD_get R hk
    have e : ∀ j, j < R.length * 2 → cur[j]? = (spD R)[j]? := fun j hj => by
      rw [← hx, List.getElem?_take_of_lt hj, Array.getElem?_toList]
    refine ⟨?_, ?_⟩
    · rw [Nat.zero_add, cell_of_row w b _ cur _ (0, 0) hg, e _ (by omega), h1]
    · rw [Nat.zero_add, cell_of_row w b _ cur _ (0, 0) hg, e _ (by omega), h2]
theorem elemSpD : ElemN Tryz.prog 29 80 2 16 := elemN_mk (z := .agg #[.int .i64 0, .int .i64 0]) Tryz.underlying29 (by kernel_rfl) rfl (by decide)
theorem spD_cells (L : List SP) : ∀ u ∈ spD L, u.oneCell' = true := fun u hu => by
  obtain ⟨x, _, hx⟩ := List.mem_flatMap.1 hu
  simp at hx
  rcases hx with rfl | rfl <;> rfl
theorem spD_two (L M : List SP) : spD (L ++ M) = spD L ++ spD M := List.flatMap_append
theorem spD_news {w : World} {b off : Nat} {L : List SP} (hr : ∀ k, k < L.length → SpAt w b (off + k * 2) (L.getD k sp0)) (j : Nat) (u : Value) (hj : (spD L)[j]? = some u) : w.cell? ⟨b, off + j, none⟩ = some u := by
  have hlt := (List.getElem?_eq_some_iff.1 hj).1
  rw [spD_length] at hlt
  obtain ⟨h1, h2⟩ := spD_get L (k := j / 2) (by omega)
  obtain ⟨c1, c2⟩ := hr (j / 2) (by omega)
  rcases Nat.mod_two_eq_zero_or_one j with h | h
  · have e : j / 2 * 2 = j := by omega
    rw [e] at h1 c1
    rw [hj] at h1
    rw [c1, h1]
  · have e : j / 2 * 2 + 1 = j := by omega
    rw [e] at h2
    rw [Nat.add_assoc, e] at c2
    rw [hj] at h2
    rw [c2, h2]
theorem spD_take {w : World} {A : Option Addr} {L : List SP} (h : RdSp w A L) {k : Nat} (hk : k ≤ L.length) : k = 0 ∨ ∃ b off, A = some ⟨b, off, none⟩ ∧ ∀ j u, (spD (L.take k))[j]? = some u → w.cell? ⟨b, off + j, none⟩ = some u := by
  rcases h with rfl | ⟨b, off, rfl, hc⟩
  · exact .inl (by simpa using hk)
  · refine .inr ⟨b, off, rfl, fun j u hj => spD_news (L := L.take k) (fun i hi => ?_) j u hj⟩
    rw [List.length_take] at hi
    have e : (L.take k).getD i sp0 = L.getD i sp0 := by rw [List.getD_eq_getElem?_getD, List.getD_eq_getElem?_getD, List.getElem?_take_of_lt (by omega)]
    rw [e]; exact hc i (by omega)
theorem spD_drop {w : World} {b off : Nat} {L : List SP} (h : RdSp w (some ⟨b, off, none⟩) L) (k : Nat) (j : Nat) (u : Value) (hj : (spD (L.drop k))[j]? = some u) : w.cell? ⟨b, off + k * 2 + j, none⟩ = some u := by
  refine spD_news (L := L.drop k) (off := off + k * 2) (fun i hi => ?_) j u hj
  rw [List.length_drop] at hi
  have e : (L.drop k).getD i sp0 = L.getD (k + i) sp0 := by rw [List.getD_eq_getElem?_getD, List.getD_eq_getElem?_getD, List.getElem?_drop]
  have e2 : off + k * 2 + i * 2 = off + (k + i) * 2 := by omega
  rw [e, e2]
  rcases h with rfl | ⟨b', off', e', hc⟩
  · simp at hi
  · injection e' with e'
    injection e' with e1 e2 _
    subst e1 e2
    exact hc (k + i) (by omega)
section
variable {P : Program} {ops : Array Oper} {rest : List Oper} {o : Oper} {a : Act} {Q : Exit → Act → World → Prop} {w : World}
theorem run_append_zero {P : Program} (w : World) (t ty e : TypeId) (i : TypeInfo) (ht : P.underlying t = some (.slice e)) (hi : P.info? e = some i) (A : Option Addr) (n c c' : Nat) (hc : n ≤ c) :
    (Builtin.append_ #[t, t] ty #[.slice A n c, .slice none 0 c']).run P w = .ok (.slice A n c) w := by
  cases A with
  | none => simp [Builtin.append_, run_underlying ht, sizeOf, typeInfo, hi, Builtin.lenOf, Builtin.firstCells, hc]
  | some a => simp [Builtin.append_, run_underlying ht, sizeOf, typeInfo, hi, Builtin.lenOf, Builtin.firstCells, hc, storeCells]
/-- 's = append(s, r...)', r a slice that only reads. -/
theorem append_read (hgd : o.guard = none) (s y : Operand) (t : TypeId) (ho : o.op = .call { callee := .builtin .append, args := #[s, y], argTypes := #[t, t] })
    (e size bytes : Nat) (hel : Hid (ElemN P t e size bytes)) (v : Value) (n m : Nat) (xs ys : List Value) (hs : a.eval s = v) (hown : w.ownsRow 0 e size v n xs) (A : Option Addr) (c : Nat) (hx : a.eval y = .slice A m c) (hyl : ys.length = m * size)
    (hr : m = 0 ∨ ∃ b off, A = some ⟨b, off, none⟩ ∧ ∀ j u, ys[j]? = some u → w.cell? ⟨b, off + j, none⟩ = some u) (h1 : ∀ x ∈ ys, x.oneCell' = true)
    (hm : n + m ≤ maxLen) (hb : (n + m) * bytes ≤ 140737488355328)
    (h : ∀ v' w', w'.ownsRow 0 e size v' (n + m) (xs ++ ys) → Moved w w' (ownS v) (ownS v') → wpList P ops Q rest (a.put o.dst v') w') : wpList P ops Q (o :: rest) a w := by
  obtain ⟨h0, i, z, hi, hz0, hz1, hz2, hz3, hz4⟩ := hel.out
  have hgo : ∀ ad, A = some ad → (∀ j u, ys[j]? = some u → w.cell? (ad.add j) = some u) → wpList P ops Q (o :: rest) a w := fun ad e hc => by
    subst e
    refine wpList_append_own_at _ hgd s y t ho 0 e i z size bytes h0 hi hz0 hz1 hz2 hz3 hz4 v n xs hs hown ad m c ys hx hyl hc h1 hm hb (Nat.zero_le _) ?_
    intro v' w' ho' hg _ hl
    exact h v' w' ho' (Moved.of_grown hg (hl.imp id fun hl => ⟨_, hl, Nat.le_refl _⟩))
  rcases hr with rfl | ⟨b, off, rfl, hc⟩
  · have hy0 : ys = [] := List.length_eq_zero_iff.1 (by omega)
    subst hy0
    cases A with
    | some ad => exact hgo ad rfl fun j u hj => by simp at hj
    | none =>
      obtain ⟨A', cap, hv, hcap⟩ := slice_ofN hown
      have hrun := run_append_zero (P := P) w t o.type e i h0 hi A' n cap c hcap
      refine wpList_plain hgd fun K hK => ?_
      unfold Oper.wp execOp
      simp only [ho, resolve, invoke, builtin, Sem.run_bind, Sem.run_pure, Result.andThen_ok, List.map_toArray, List.map_cons, List.map_nil, hs, hv, hx, hrun]
      refine hK _ _ (h _ _ ?_ ?_)
      · rw [List.append_nil, Nat.add_zero, ← hv]; exact hown
      · rw [hv]; exact Moved.refl _ _
  · exact hgo _ rfl fun j u hj => by
      have e : (⟨b, off, none⟩ : Addr).add j = ⟨b, off + j, none⟩ := by unfold Addr.add; split <;> simp_all
      rw [e]; exact hc j u hj
end
end Go.Proofs.YtfcclppgjfkfoaaGreatDoor

/- The document's Reserve of layer 14; spans in a slice of the call's own. Conditions: strings of at most 2^40 bytes. -/
namespace Go.Proofs.YtfcclppgjfkfoaaGreatDoor
open Go.RowKit

theorem extk_list (s : ByteArray) (k n : Nat) : (s.extract k (k + n)).data.toList = (s.data.toList.drop k).take n := by
  have e : (s.extract k (k + n)).data = s.data.extract k (k + n) := ByteArray.data_extract
  rw [e, Array.toList_extract, List.extract_eq_take_drop, Nat.add_sub_cancel_left]
def resvI (k : Nat) (s : List UInt8) (x : Int) : List SP × Nat := if x < 0 then ([], 14) else resvR k (s.drop x.toNat)

end Go.Proofs.YtfcclppgjfkfoaaGreatDoor

/- The document's Reserve of layer 15. Condition: a slice that reads as spans. -/
namespace Go.Proofs.YtfcclppgjfkfoaaGreatDoor
open Go.RowKit

theorem okSp_no {x : SP} (h : x.p < 0 ∨ 4294967295 < x.p ∨ x.n < 0 ∨ 4294967295 < x.n ∨ (x.p = 0 ∧ x.n = 0)) : okSp x = false := by
  cases e : okSp x with
  | false => rfl
  | true => have := okSp_iff.1 e; omega
theorem spB_snoc : ∀ (l : List SP) (x : SP), spB (l ++ [x]) = spB l ++ bigs [0, x.p, 0, x.n] 4
  | [], x => by show bigs _ 4 ++ [] = [] ++ _; simp
  | y :: l, x => by
    show bigs _ 4 ++ spB (l ++ [x]) = (bigs _ 4 ++ spB l) ++ _
    rw [spB_snoc l x, List.append_assoc]
theorem spB_take (L : List SP) {k : Nat} (hk : k < L.length) {x : SP} (hx : L.getD k sp0 = x) : spB (L.take (k + 1)) = spB (L.take k) ++ bigs [0, x.p, 0, x.n] 4 := by
  have e : L.take (k + 1) = L.take k ++ [x] := by
    rw [List.take_succ_eq_append_getElem hk, ← hx, List.getD_eq_getElem?_getD, List.getElem?_eq_getElem hk]; rfl
  rw [e, spB_snoc]
end Go.Proofs.YtfcclppgjfkfoaaGreatDoor

/- The document's answers for layer 11: whether a header is valid, Put, Read, Part. Conditions: numbers of 64 bits; strings of at most 2^40 bytes. -/
namespace Go.Proofs.YtfcclppgjfkfoaaGreatDoor
open Go.RowKit

/-- Numbers of 64 bits. -/
def in64 (x : Int) : Prop := -9223372036854775808 ≤ x ∧ x < 9223372036854775808

end Go.Proofs.YtfcclppgjfkfoaaGreatDoor

/- The document's Put and Part of layer 11. Conditions: numbers of 64 bits; strings of at most 2^40 bytes. -/
namespace Go.Proofs.YtfcclppgjfkfoaaGreatDoor
open Go.RowKit

end Go.Proofs.YtfcclppgjfkfoaaGreatDoor

/- The document's Read of layer 11. Conditions: strings of at most 2^40 bytes. -/
namespace Go.Proofs.YtfcclppgjfkfoaaGreatDoor
open Go.RowKit

/-- Two results, the first a struct of the call's own. -/
theorem results_rowH {P : Program} {fn : Func} {p u : Tmp} {ty : TypeId} (h : fn.results = #[.cell p ty, .tmp u]) (tmps : Array Value) (w : World) (g : Nat) (t : TypeId) (cs : Array Value) (fr : Nat × Nat) (d : TypeDesc)
    (hp : tmps.getD p undef = .pointer (some ⟨g, 0, none⟩)) (hg : w.heap[g]? = some (.cells cs t fr))
    (hu : P.underlying ty = some d) (hd : (match d with | .struct _ | .array _ _ => true | _ => false) = true) (hi : (P.info? ty).map (·.size) = some cs.size) :
    (results fn tmps).run P w = .ok (.tuple #[.agg cs, tmps.getD u undef]) w := by
  have e : (results fn tmps).run P w = ((asAddr (tmps.getD p undef)).run P w).andThen fun a w₁ => ((loadVar ty a).run P w₁).andThen fun x w₂ => .ok (.tuple #[x, tmps.getD u undef]) w₂ := by
    simp only [results, h]
    simp [Sem.run_bind, Result.andThen]
  rw [e, hp]
  simp [asAddr, run_loadVar_row w g t ty cs fr d hg hu hd hi, Result.andThen]
theorem hdC_one (h : HD) : (hdC h).all (·.oneCell') = true := by
  rw [Array.all_eq_true_iff_forall_mem]
  intro v hv
  simp [hdC] at hv
  rcases hv with rfl | rfl | rfl | rfl | rfl | rfl | rfl <;> rfl
theorem infoH (h : HD) : (Tryz.prog.info? 51).map (·.size) = some (hdC h).size := by kernel_rfl
theorem ext0_list (s : ByteArray) (k : Nat) : (s.extract 0 k).data.toList = s.data.toList.take k := by
  have e : (s.extract 0 k).data = s.data.extract 0 k := ByteArray.data_extract
  rw [e, Array.toList_extract, List.extract_eq_take_drop]
  simp

end Go.Proofs.YtfcclppgjfkfoaaGreatDoor

/- The document's Tree of layer 14. Conditions: strings of at most 2^40 bytes. -/
namespace Go.Proofs.YtfcclppgjfkfoaaGreatDoor
open Go.RowKit

theorem rdSp_row {w : World} {A : Option Addr} {L : List SP} {B g : Nat} {cs : Array Value} (h : RdSp w A L) (hf : SpFar B A L) (hg : g < B) : RdSp (w.setRow g cs) A L := by
  rcases h with h | ⟨b, off, rfl, hc⟩
  · exact .inl h
  · rcases hf with h | ⟨b', off', e, hb⟩
    · exact .inl h
    · injection e with e
      injection e with e1 e2
      subst e1
      refine .inr ⟨b, off, rfl, fun k hk => ?_⟩
      obtain ⟨h1, h2⟩ := hc k hk
      have hlt : b < w.heap.size := World.block_lt_of_cell? w _ h1
      have e : ∀ j, (w.setRow g cs).cell? ⟨b, j, none⟩ = w.cell? ⟨b, j, none⟩ := fun j => World.cell?_of_block (a := ⟨b, j, none⟩) ((moved_setRow w g cs).block b hlt (fun he => by omega))
      exact ⟨by rw [e]; exact h1, by rw [e]; exact h2⟩
/-- A tree's cells: the root, what is reserved, the processor. -/
abbrev dtC (nm : ByteArray) (v2 v3 r : Value) (b : Int) : Array Value := #[.string nm, v2, v3, r, .int .i64 b]
abbrev hdZ : Array Value := #[.int .i64 0, .int .i64 0, .int .i64 0, .int .i64 0, .int .i64 0, .int .i64 0, .int .i64 0]
abbrev dtZ : Array Value := #[.string ⟨#[]⟩, .slice none 0 0, .slice none 0 0, .slice none 0 0, .int .i64 0]
theorem infoDt (nm : ByteArray) (v2 v3 r : Value) (b : Int) : (Tryz.prog.info? 31).map (·.size) = some (dtC nm v2 v3 r b).size := by
  show _ = some 5
  kernel_rfl
theorem infoDz : (Tryz.prog.info? 31).map (·.size) = some dtZ.size := by
  show _ = some 5
  kernel_rfl
theorem dtZ_one : dtZ.all (·.oneCell') = true := by
  rw [Array.all_eq_true_iff_forall_mem]
  intro v hv
  simp at hv
  rcases hv with rfl | rfl | rfl | rfl | rfl <;> rfl
theorem dtC_one (nm : ByteArray) (v2 v3 r : Value) (b : Int) (h2 : v2.oneCell' = true) (h3 : v3.oneCell' = true) (h4 : r.oneCell' = true) : (dtC nm v2 v3 r b).all (·.oneCell') = true := by
  simp [h2, h3, h4]
  exact ⟨rfl, rfl⟩
/-- The tree T lies in memory. -/
def DtAt (w : World) (T : DT) (v2 v3 : Value) (A : Option Addr) : Prop := NdAt w (fun k => k < w.heap.size) T.rt v2 v3 ∧ RdSp w A T.rs
theorem DtAt.below {w w' : World} {T : DT} {v2 v3 : Value} {A : Option Addr} (h : DtAt w T v2 v3 A) (hb : Below w.heap.size w w') : DtAt w' T v2 v3 A :=
  ⟨(nd_below h.1 hb).mono fun _ hk => Nat.lt_of_lt_of_le hk hb.size, h.2.below hb⟩
theorem dtAt_zero (w : World) : DtAt w dt0 (.slice none 0 0) (.slice none 0 0) none := ⟨nd0_at _ _, .inl rfl⟩

theorem partR_le (s : ByteArray) (a b : Int) {n : Nat} (h : s.size ≤ n) : (partR s a b).1.size ≤ n := by
  unfold partR
  split
  · exact Nat.zero_le _
  · show (s.extract _ _).size ≤ n
    rw [ByteArray.size_extract]; omega

end Go.Proofs.YtfcclppgjfkfoaaGreatDoor

/- The document's Same of layer 14, of two trees that read alike; what package decode must do, said over nothing of its code. Conditions: spans that fit. -/
namespace Go.Proofs.YtfcclppgjfkfoaaGreatDoor
open Go.RowKit

/-- The cells of two trees side by side. -/
theorem dt_cells {w : World} {g : Nat} {nm : ByteArray} {v2 v3 r : Value} {b : Int} (h : Arr w g 31 (dtC nm v2 v3 r b)) :
    w.cell? ⟨g, 0, none⟩ = some (.string nm) ∧ w.cell? ⟨g, 1, none⟩ = some v2 ∧ w.cell? ⟨g, 2, none⟩ = some v3 ∧ w.cell? ⟨g, 3, none⟩ = some r ∧ w.cell? ⟨g, 4, none⟩ = some (.int .i64 b) :=
  ⟨h.cell 0, h.cell 1, h.cell 2, h.cell 3, h.cell 4⟩

set_option maxHeartbeats 1600000 in
set_option maxRecDepth 100000 in
theorem rSameT_any (T : DT) (v2 v3 u2 u3 : Value) (A A' : Option Addr) (cap cap' : Nat) (w : World) (hl : T.rs.length ≤ maxLen) (h : DtAt w T v2 v3 A) (h' : DtAt w T u2 u3 A') :
    Calls Tryz.prog 6 #[.agg (dtC T.rt.nm v2 v3 (.slice A T.rs.length cap) T.bo), .agg (dtC T.rt.nm u2 u3 (.slice A' T.rs.length cap') T.bo)] w fun e w' => e = .returned (.bool true) ∧ Below w.heap.size w w' := by
  obtain ⟨W1, hW1⟩ : ∃ W1, W1 = (w.alloc (.cells (dtC T.rt.nm v2 v3 (.slice A T.rs.length cap) T.bo) 31)).alloc (.cells (dtC T.rt.nm u2 u3 (.slice A' T.rs.length cap') T.bo) 31) := ⟨_, rfl⟩
  obtain ⟨g8, hg8⟩ : ∃ g8, g8 = w.heap.size := ⟨_, rfl⟩
  obtain ⟨g9, hg9⟩ : ∃ g9, g9 = w.heap.size + 1 := ⟨_, rfl⟩
  have hB1 : Below w.heap.size w W1 := by rw [hW1]; exact ((Below.refl _ _).alloc (Nat.le_refl _) _).alloc (by rw [sz_alloc]; omega) _
  have hA8 : Arr W1 g8 31 (dtC T.rt.nm v2 v3 (.slice A T.rs.length cap) T.bo) := by rw [hW1, hg8]; exact (Arr.new w _ _).alloc _
  have hA9 : Arr W1 g9 31 (dtC T.rt.nm u2 u3 (.slice A' T.rs.length cap') T.bo) := by rw [hW1, hg9]; exact Arr.new1 w _ _ _
  have HB1 := Lib.hid hB1
  have H1 := Lib.hid (h.below hB1)
  have H2 := Lib.hid (h'.below hB1)
  have HA8 := Lib.hid hA8
  have HA9 := Lib.hid hA9
  have HC : Hid (∀ W, DtAt W T v2 v3 A → DtAt W T u2 u3 A' → Calls Tryz.prog 8 #[.agg #[.string T.rt.nm, v2, v3], .agg #[.string T.rt.nm, u2, u3]] W fun e w' => e = .returned (.bool true) ∧ Below W.heap.size W w') := fun W h1 h2 => by
    have := rSame_any _ _ T.rt T.rt v2 v3 u2 u3 W h1.1 h2.1
    rwa [sameR_refl] at this
  have HP : Hid (∀ W, DtAt W T v2 v3 A → DtAt W T u2 u3 A' → Calls Tryz.prog 17 #[.slice A T.rs.length cap, .slice A' T.rs.length cap'] W fun e w' => e = .returned (.bool true) ∧ Below W.heap.size W w') := fun W h1 h2 => sameSp_any A A' cap cap' T.rs W hl h1.2 h2.2
  obtain ⟨k80, k81, k82, k83, k84⟩ := dt_cells hA8
  obtain ⟨k90, k91, k92, k93, k94⟩ := dt_cells hA9
  clear h h' hB1 hA8 hA9 hl
  generalize T.rs.length = n at *
  go_enter Tryz.func6, Tryz.ntmps6
  go_upto_region 1 with fail
  rw [← hW1, ← hg9, ← hg8]
  clear hW1 hg9 hg8
  go_wp2_with fail
  refine (HC.out _ H1.out H2.out).mono ?_
  rintro e w3 ⟨rfl, hb⟩
  clear k80 k81 k82 k83 k84 k90 k91 k92 k93 k94 HC
  have H1 := Lib.hid (H1.out.below hb)
  have H2 := Lib.hid (H2.out.below hb)
  have HA8 := Lib.hid (HA8.out.below hb HA8.out.lt)
  have HA9 := Lib.hid (HA9.out.below hb HA9.out.lt)
  have HB1 := Lib.hid (HB1.out.trans (hb.mono HB1.out.size))
  clear hb
  obtain ⟨-, -, -, k83, k84⟩ := dt_cells HA8.out
  obtain ⟨-, -, -, k93, k94⟩ := dt_cells HA9.out
  go_wp2_with fail
  refine (HP.out _ H1.out H2.out).mono ?_
  rintro e w4 ⟨rfl, hb⟩
  clear k83 k84 k93 k94 HP
  have HA8 := Lib.hid (HA8.out.below hb HA8.out.lt)
  have HA9 := Lib.hid (HA9.out.below hb HA9.out.lt)
  have HB1 := Lib.hid (HB1.out.trans (hb.mono HB1.out.size))
  clear hb
  obtain ⟨-, -, -, -, k84⟩ := dt_cells HA8.out
  obtain ⟨-, -, -, -, k94⟩ := dt_cells HA9.out
  go_wp2
  go_ret
  exact ⟨rfl, HB1.out⟩

/-- The contract of decode's Tree. -/
def DecTree : Prop := ∀ (s : ByteArray) (w : World), s.size ≤ 1099511627776 → Calls Tryz.prog 5 #[.string s] w fun e w' => ∃ v2 v3 A cap, e = .returned (.tuple #[.agg (dtC (treeD s.data.toList).1.rt.nm v2 v3 (.slice A (treeD s.data.toList).1.rs.length cap) (treeD s.data.toList).1.bo), .int .i64 ((treeD s.data.toList).2 : Int)]) ∧ DtAt w' (treeD s.data.toList).1 v2 v3 A ∧ Below w.heap.size w w'
/-- The contracts of package decode. -/
structure DecMust : Prop where
  tree : ∀ (s : ByteArray) (w : World), s.size ≤ 1099511627776 → Calls Tryz.prog 5 #[.string s] w fun e w' => ∃ v2 v3 A cap, e = .returned (.tuple #[.agg (dtC (treeD s.data.toList).1.rt.nm v2 v3 (.slice A (treeD s.data.toList).1.rs.length cap) (treeD s.data.toList).1.bo), .int .i64 ((treeD s.data.toList).2 : Int)]) ∧ DtAt w' (treeD s.data.toList).1 v2 v3 A ∧ Below w.heap.size w w'
  reserve : ∀ (s : ByteArray) (a : Int) (w : World), s.size ≤ 1099511627776 → -9223372036854775808 ≤ a ∧ a ≤ 9223372036854775807 → Calls Tryz.prog 15 #[.string s, .int .i64 a] w fun e w' => ∃ A cap, e = .returned (.tuple #[.slice A (resv s.data.toList a).1.length cap, .int .i64 ((resv s.data.toList a).2 : Int)]) ∧ RdSp w' A (resv s.data.toList a).1 ∧ Below w.heap.size w w'
  size : ∀ (s : ByteArray) (w : World), s.size ≤ 1099511627776 → Calls Tryz.prog 10 #[.string s] w fun e w' => e = .returned (.tuple #[.int .i64 (readH s.data.toList).1.tot, .int .i64 ((readH s.data.toList).2 : Int)]) ∧ Below w.heap.size w w'
end Go.Proofs.YtfcclppgjfkfoaaGreatDoor

/- Has a tree few parts? (the document's Low of layer 14). Condition: spans that fit. -/
namespace Go.Proofs.YtfcclppgjfkfoaaGreatDoor
open Go.RowKit

/-- Few parts: a low root, at most 20 spans. -/
def lowD (T : DT) : Bool := LowR T.rt && decide (T.rs.length ≤ 20)
theorem lowD_and {T : DT} (h : lowD T = true) : LowR T.rt = true ∧ T.rs.length ≤ 20 := by
  unfold lowD at h
  rw [Bool.and_eq_true] at h
  exact ⟨h.1, of_decide_eq_true h.2⟩

end Go.Proofs.YtfcclppgjfkfoaaGreatDoor

/- Append of a slice of tokens to one's own. Conditions: at most 2^40 tokens. -/
namespace Go.Proofs.YtfcclppgjfkfoaaGreatDoor
open Go.RowKit

theorem tkL_app (l r : List TK) : tkL (l ++ r) = tkL l ++ tkL r := by simp [tkL]
theorem tkL_one (l : List TK) : ∀ u ∈ tkL l, u.oneCell' = true := by
  intro u hu
  simp only [tkL, List.mem_flatMap] at hu
  obtain ⟨x, _, hx⟩ := hu
  simp [tkl] at hx
  rcases hx with rfl | rfl | rfl <;> rfl
theorem run_append_nothing {P : Program} (w : World) (t ty e : TypeId) (i : TypeInfo) (ht : P.underlying t = some (.slice e)) (hi : P.info? e = some i) (A : Option Addr) (n c : Nat) (hc : n ≤ c) :
    (Builtin.append_ #[t, t] ty #[.slice A n c, .slice none 0 0]).run P w = .ok (.slice A n c) w := by
  cases A with
  | none => simp [Builtin.append_, run_underlying ht, sizeOf, typeInfo, hi, Builtin.lenOf, Builtin.firstCells, hc]
  | some a => simp [Builtin.append_, run_underlying ht, sizeOf, typeInfo, hi, Builtin.lenOf, Builtin.firstCells, hc, storeCells]
/-- 'l = append(l, r...)', r a slice of tokens of some call's own. -/
theorem append_tks {ops : Array Oper} {rest : List Oper} {o : Oper} {a : Act} {Q : Exit → Act → World → Prop} {w : World} (hgd : o.guard = none) (s y : Operand)
    (ho : o.op = .call { callee := .builtin .append, args := #[s, y], argTypes := #[65, 65] })
    (v u : Value) (l r : List TK) (B : Nat) (hs : a.eval s = v) (hown : w.ownsRow 0 116 3 v l.length (tkL l)) (hx : a.eval y = u) (hr : w.ownsRow B 116 3 u r.length (tkL r))
    (hn : l.length + r.length ≤ 1099511627776)
    (h : ∀ v' w', w'.ownsRow 0 116 3 v' (l ++ r).length (tkL (l ++ r)) → Moved w w' (ownS v) (ownS v') → wpList Tryz.prog ops Q rest (a.put o.dst v') w') : wpList Tryz.prog ops Q (o :: rest) a w := by
  have hinf : ((Tryz.prog.info? 116).map fun i => (i.zero, i.size, i.bytes)) = some (some (tkV tk0), 3, 40) := by kernel_rfl
  obtain ⟨i, hi, he⟩ := Option.map_eq_some_iff.1 hinf
  simp only [Prod.mk.injEq] at he
  rcases hr.2 with ⟨hu, hz⟩ | ⟨b, cap, cur, hu, _, hg, hnc, _, hcs, hx2⟩
  · have hr0 : r = [] := List.length_eq_zero_iff.1 hz
    subst hr0
    obtain ⟨A, cap, hv, hcap⟩ : ∃ A cap, v = .slice A l.length cap ∧ l.length ≤ cap := by
      rcases hown.2 with ⟨h1, h2⟩ | ⟨b, cap, cur, h1, _, _, h2, _⟩
      · exact ⟨none, 0, by rw [h1, h2], by omega⟩
      · exact ⟨_, cap, h1, h2⟩
    refine wpList_plain hgd fun K hK => ?_
    have hrun := run_append_nothing (P := Tryz.prog) w 65 o.type 116 i Tryz.underlying65 hi A l.length cap hcap
    unfold Oper.wp execOp
    simp only [ho, resolve, invoke, builtin, Sem.run_bind, Sem.run_pure, Result.andThen_ok, List.map_toArray, List.map_cons, List.map_nil, hs, hx, hu, hv, hrun]
    refine hK _ _ (h _ w ?_ ?_)
    · rw [List.append_nil, ← hv]; exact hown
    · rw [← hv]; exact Moved.refl _ _
  · refine wpList_append_own_at _ hgd s y 65 ho 0 116 i (tkV tk0) 3 40 Tryz.underlying65 hi he.1 he.2.1 he.2.2 rfl (by decide) v l.length (tkL l) hs hown ⟨b, 0, none⟩ r.length cap (tkL r) (hx.trans hu) (tkL_length r) ?_ (tkL_one r) (by unfold maxLen; omega) (by omega) (Nat.zero_le _) ?_
    · intro j u' hj
      have e : (⟨b, 0, none⟩ : Addr).add j = ⟨b, j, none⟩ := by unfold Addr.add; split <;> simp_all
      have hlt : j < r.length * 3 := by
        have := (List.getElem?_eq_some_iff.1 hj).1
        rw [tkL_length] at this; exact this
      rw [e, cell_of_row w b _ cur _ (0, 0) hg, ← hj, ← hx2, List.getElem?_take_of_lt hlt, Array.getElem?_toList]
    · intro v' w' ho' hg' _ hl
      refine h v' w' (by rw [tkL_app, List.length_append]; exact ho') (Moved.of_grown hg' ?_)
      rcases hl with hl | hl
      · exact .inl hl
      · exact .inr ⟨_, hl, Nat.le_refl _⟩
end Go.Proofs.YtfcclppgjfkfoaaGreatDoor

/- What the document's tokens and Tokens of trees return. Conditions: a tree that is read, of at most 2^39 tokens. -/
namespace Go.Proofs.YtfcclppgjfkfoaaGreatDoor
open Go.RowKit

/-- The tokens behind j properties, and behind j kids. -/
def tkPs (n : ND) (j : Nat) : List TK := ⟨1, n.nm, ByteArray.empty⟩ :: (n.ps.take j).map tokP
def tkKs (k : Nat) (n : ND) (j : Nat) : List TK := (⟨1, n.nm, ByteArray.empty⟩ :: n.ps.map tokP) ++ (n.ks.take j).flatMap (tokR k)
theorem tkPs_succ (n : ND) {j : Nat} (hj : j < n.ps.length) : tkPs n (j + 1) = tkPs n j ++ [tokP (n.ps.getD j pr0)] := by
  unfold tkPs
  rw [List.take_succ_eq_append_getElem hj, List.map_append, List.cons_append]
  have e : n.ps.getD j pr0 = n.ps[j] := by rw [List.getD_eq_getElem?_getD, List.getElem?_eq_getElem hj]; rfl
  rw [e]; rfl
theorem tkPs_all (k : Nat) (n : ND) : tkPs n n.ps.length = tkKs k n 0 := by
  unfold tkPs tkKs; rw [List.take_length]; simp
theorem tkPs_len (n : ND) {j : Nat} (hj : j ≤ n.ps.length) : (tkPs n j).length = 1 + j := by
  unfold tkPs; rw [List.length_cons, List.length_map, List.length_take]; omega
theorem tkKs_succ (k : Nat) (n : ND) {j : Nat} (hj : j < n.ks.length) : tkKs k n (j + 1) = tkKs k n j ++ tokR k (n.ks.getD j nd0) := by
  unfold tkKs
  rw [List.take_succ_eq_append_getElem hj, List.flatMap_append, ← List.append_assoc]
  have e : n.ks.getD j nd0 = n.ks[j] := by rw [List.getD_eq_getElem?_getD, List.getElem?_eq_getElem hj]; rfl
  rw [e]; simp
theorem tokR_eq (k : Nat) (n : ND) : tokR (k + 1) n = tkKs k n n.ks.length ++ [⟨2, ByteArray.empty, ByteArray.empty⟩] := by
  unfold tkKs; rw [List.take_length]; rfl
theorem tkKs_le (k : Nat) (n : ND) {j : Nat} (hj : j ≤ n.ks.length) : (tkKs k n j).length + 1 ≤ (tokR (k + 1) n).length := by
  have h : ∀ d i, i + d ≤ n.ks.length → (tkKs k n i).length ≤ (tkKs k n (i + d)).length := by
    intro d
    induction d with
    | zero => intro i _; exact Nat.le_refl _
    | succ d ih =>
      intro i hi
      have h1 := ih i (by omega)
      rw [show i + (d + 1) = i + d + 1 by omega, tkKs_succ k n (show i + d < n.ks.length by omega), List.length_append]
      omega
  have h1 := h (n.ks.length - j) j (by omega)
  rw [show j + (n.ks.length - j) = n.ks.length by omega] at h1
  rw [tokR_eq, List.length_append]
  simp only [List.length_cons, List.length_nil]; omega
theorem tok_kid_le (k : Nat) (n : ND) {j : Nat} (hj : j < n.ks.length) : (tkKs k n j).length + (tokR k (n.ks.getD j nd0)).length + 1 ≤ (tokR (k + 1) n).length := by
  have h := tkKs_le k n (j := j + 1) (by omega)
  rw [tkKs_succ k n hj, List.length_append] at h
  omega
/-- A slice of one token that was just made. -/
theorem own_one (w : World) (x : TK) (B : Nat) (hB : B ≤ w.heap.size) : (w.alloc (.cells (tkC x) 116)).ownsRow B 116 3 (.slice (some ⟨w.heap.size, 0, none⟩) 1 1) 1 (tkL [x]) :=
  ⟨rfl, .inr ⟨w.heap.size, 1, tkC x, rfl, hB, Arr.new w _ _, Nat.le_refl _, by decide, rfl, rfl⟩⟩

end Go.Proofs.YtfcclppgjfkfoaaGreatDoor

/- The document's Tree of layer 15. Conditions: a tree in memory, of at most 2^39 tokens, names and values of at most 2^20 bytes. -/
namespace Go.Proofs.YtfcclppgjfkfoaaGreatDoor
open Go.RowKit

/-- The sizes of a tree that is encoded. -/
structure EnOk (T : DT) : Prop where
  ca : (countR 9 T.rt).a ≤ 1099511627776
  cb : (countR 9 T.rt).b ≤ 1099511627776
  tl : (tokR 8 T.rt).length ≤ 549755813888
  tk : ∀ k, k < (tokR 8 T.rt).length → ((tokR 8 T.rt).getD k tk0).nm.size ≤ 1048576 ∧ ((tokR 8 T.rt).getD k tk0).vl.size ≤ 1048576
  rl : T.rs.length ≤ maxLen
theorem resP_len (l : List SP) : (resP l).1.length ≤ 272 := by
  unfold resP
  split
  · exact Nat.zero_le _
  · split
    · show (spB l ++ endB).length ≤ 272
      rw [List.length_append, spB_len, show endB.length = 16 from rfl]; omega
    · exact Nat.zero_le _
theorem put_bytes {l : List TK} (hv : ∀ k, k < l.length → (l.getD k tk0).nm.size ≤ 1048576 ∧ (l.getD k tk0).vl.size ≤ 1048576) : (putR l).1.size ≤ 1099511627776 ∧ (putR l).2.1.size ≤ 1099511627776 := by
  by_cases h : (putR l).2.2 = 0
  · have := put_read (l := l) (fun x hx => by
      obtain ⟨k, hk, rfl⟩ := List.getElem_of_mem hx
      have := (hv k hk).2
      rwa [List.getD_eq_getElem?_getD, List.getElem?_eq_getElem hk] at this) h
    exact ⟨this.2.1, this.2.2⟩
  · have : (putR l).1 = ByteArray.empty ∧ (putR l).2.1 = ByteArray.empty := by
      by_cases h1 : 1024 ≤ l.length
      · rw [putR_big h1]; exact ⟨rfl, rfl⟩
      · cases h2 : l.all okT with
        | false => rw [putR_bad h1 h2]; exact ⟨rfl, rfl⟩
        | true => rw [putR_good h1 h2] at h; exact absurd rfl h
    rw [this.1, this.2]
    exact ⟨Nat.zero_le _, Nat.zero_le _⟩
theorem ba_size (l : List UInt8) : (ByteArray.mk l.toArray).size = l.length := by show l.toArray.size = _; simp
/-- A string as long as it is. -/
def strLen15 : Value → Nat
  | .string s => s.size
  | _ => 0

end Go.Proofs.YtfcclppgjfkfoaaGreatDoor
