/- A Ram of package ram in memory: its cells, what stores make of them, the zero Ram, and what it says of the bytes that are loaded. No condition. -/
import Derived.Test.YtecfdcibjmakeaaMem
import Derived.Test.YtecfdcibjmakeaaRaI
namespace Go.Proofs.Ytecfdcibjmakeaa
open Go.RowKit

/-- The cells of a Ram. -/
def ramC (m : Bool) (B : List UInt8) (v : Value) : Array Value := (Value.bool m :: (Lib.byteCells B ++ [v])).toArray
theorem ramC_size (m : Bool) (B : List UInt8) (v : Value) : (ramC m B v).size = B.length + 2 := by
  unfold ramC; rw [List.size_toArray]; simp only [List.length_cons, List.length_append, byteCells_length, List.length_nil]
theorem ramC_set (m : Bool) (B : List UInt8) (v v' : Value) {n : Nat} (hn : B.length = n) : (ramC m B v).setIfInBounds (n + 1) v' = ramC m B v' := by
  unfold ramC
  rw [List.setIfInBounds_toArray, List.set_cons_succ, List.set_append_right _ _ (by rw [byteCells_length]; omega), byteCells_length, hn, Nat.sub_self]
  rfl
theorem ramC_made (m m' : Bool) (B : List UInt8) (v : Value) : (ramC m B v).setIfInBounds 0 (.bool m') = ramC m' B v := by
  unfold ramC
  rw [List.setIfInBounds_toArray, List.set_cons_zero]
theorem ramC_copied (m : Bool) (B X : List UInt8) (v : Value) (x : Nat) (h : x + X.length ≤ B.length) :
    ((ramC m B v).toList.take (1 + x) ++ Lib.byteCells X ++ (ramC m B v).toList.drop (1 + x + X.length)).toArray = ramC m (B.take x ++ X ++ B.drop (x + X.length)) v := by
  unfold ramC
  simp only
  rw [show 1 + x = x + 1 by omega, show x + 1 + X.length = x + X.length + 1 by omega, List.take_succ_cons, List.drop_succ_cons, List.take_append_of_le_length (by rw [byteCells_length]; omega), List.drop_append_of_le_length (by rw [byteCells_length]; omega)]
  unfold Lib.byteCells
  simp only [List.map_append, List.map_take, List.map_drop, List.cons_append, List.append_assoc]
section
variable {w : World} {g t : Nat} {m : Bool} {B : List UInt8} {v : Value}
theorem ram_made (h : Arr w g t (ramC m B v)) : w.cell? ⟨g, 0, none⟩ = some (.bool m) := by rw [h.cell]; rfl
theorem ram_byte (h : Arr w g t (ramC m B v)) {j : Nat} (hj : j < B.length) : w.cell? ⟨g, 1 + j, none⟩ = some (.int .u8 ((B.getD j 0).toNat : Int)) := by
  rw [h.cell]
  unfold ramC
  rw [List.getElem?_toArray, show 1 + j = j + 1 by omega, List.getElem?_cons_succ, List.getElem?_append_left (by rw [byteCells_length]; exact hj)]
  exact byteCells_getD B hj
theorem ram_spans (h : Arr w g t (ramC m B v)) (hn : B.length = 65536) : w.cell? ⟨g, 65537, none⟩ = some v := by
  rw [h.cell]
  unfold ramC
  rw [List.getElem?_toArray, show (65537 : Nat) = 65536 + 1 from rfl, List.getElem?_cons_succ, List.getElem?_append_right (by rw [byteCells_length]; omega), byteCells_length, hn, Nat.sub_self]
  rfl
theorem ram_setSpans (h : Arr w g t (ramC m B v)) (hn : B.length = 65536) (v' : Value) : Arr (w.setCell ⟨g, 65537, none⟩ v') g t (ramC m B v') := by
  have := h.put 65537 v'
  rwa [ramC_set m B v v' hn] at this
/-- Some of its bytes, as a string. -/
theorem ram_string (h : Arr w g t (ramC m B v)) (a n cap : Nat) (hn : a + n ≤ B.length) :
    (convert 50 9 (.slice (some ⟨g, 1 + a, none⟩) n cap)).run Try.prog w = .ok (.string ⟨((B.drop a).take n).toArray⟩) w := by
  have hl : ((B.drop a).take n).length = n := by rw [List.length_take, List.length_drop]; omega
  have := run_convert_bytes_back (P := Try.prog) w 50 9 5 ⟨g, 1 + a, none⟩ cap ((B.drop a).take n) Try.underlying50 Try.underlying5 Try.underlying9 (fun j hj => by
    have hjn : j < n := by omega
    have e : (⟨g, 1 + a, none⟩ : Addr).add j = ⟨g, 1 + (a + j), none⟩ := by unfold Addr.add; split <;> simp_all <;> omega
    rw [e, ram_byte h (by omega)]
    simp [List.getD, show a + j < B.length by omega])
  rwa [hl] at this
end
/-- A zero Ram. -/
def isRam0 : Option Value → Bool
  | some (.agg ⟨.bool false :: l⟩) => match offZ 16 l with
    | some [.slice none 0 0] => true
    | _ => false
  | _ => false
def ram0 : Array Value := ramC false (List.replicate 65536 0) (.slice none 0 0)
theorem isRam0_eq {v : Option Value} (h : isRam0 v = true) : v = some (.agg ram0) := by
  unfold isRam0 at h
  split at h
  · split at h
    · rename_i hr
      rw [offZ_eq _ _ _ hr]; rfl
    · cases h
  · cases h
theorem ram0_zero : Try.t33.zero = some (.agg ram0) := isRam0_eq (by kernel_rfl)
theorem zeroRam (w : World) : (zeroValue 33).run Try.prog w = .ok (.agg ram0) w := by
  simp only [zeroValue, Sem.run_bind, Try.typeInfo33, Result.andThen_ok, ram0_zero, Sem.run_pure]

/-- The bytes B are those of a memory in which R is loaded. -/
def MB (B : List UInt8) (R : List LD) : Prop := B.length = 65536 ∧ ∀ j, j < 65536 → B.getD j 0 = byR R j
theorem mb_zero (n : Nat) (hn : n = 65536) : MB (List.replicate n 0) [] := by
  refine ⟨by rw [List.length_replicate, hn], fun j hj => ?_⟩
  rw [List.getD_eq_getElem?_getD, List.getElem?_replicate, if_pos (by omega)]
  rfl
theorem mb_put {B : List UInt8} {R : List LD} (h : MB B R) {x : Nat} {s : ByteArray} (hx : x + s.size ≤ 65536) : MB (B.take x ++ s.data.toList ++ B.drop (x + s.data.toList.length)) (R ++ [⟨x, s⟩]) := by
  have hs : s.data.toList.length = s.size := rfl
  obtain ⟨h1, h2⟩ := h
  refine ⟨by simp only [List.length_append, List.length_take, List.length_drop, hs]; omega, fun j hj => ?_⟩
  rw [byR_snoc]
  simp only
  rw [List.getD_eq_getElem?_getD]
  have ht : (B.take x).length = x := by rw [List.length_take]; omega
  by_cases q1 : j < x
  · rw [if_neg (by omega), List.append_assoc, List.getElem?_append_left (by omega), List.getElem?_take_of_lt q1, ← List.getD_eq_getElem?_getD, h2 j hj]
  · by_cases q2 : j < x + s.size
    · rw [if_pos ⟨by omega, q2⟩, List.append_assoc, List.getElem?_append_right (by omega), ht, List.getElem?_append_left (by omega), ← List.getD_eq_getElem?_getD]
    · rw [if_neg (by omega), List.append_assoc, List.getElem?_append_right (by omega), ht, List.getElem?_append_right (by omega), List.getElem?_drop, hs, show x + s.size + (j - x - s.size) = j by omega, ← List.getD_eq_getElem?_getD, h2 j hj]
theorem mb_read {B : List UInt8} {R : List LD} (h : MB B R) {a n : Nat} (hn : a + n ≤ 65536) : (B.drop a).take n = (List.range n).map fun i => byR R (a + i) := by
  obtain ⟨h1, h2⟩ := h
  refine List.ext_getElem (by simp only [List.length_take, List.length_drop, List.length_map, List.length_range]; omega) fun j q1 q2 => ?_
  have hj : j < n := by simpa using q2
  have := h2 (a + j) (by omega)
  rw [List.getD_eq_getElem?_getD, List.getElem?_eq_getElem (by omega)] at this
  simpa using this
/-- Spans of a list's own, as a slice. -/
theorem own_spans {w : World} {v : Value} {R : List LD} (h : w.ownsRow 0 47 2 v R.length (spsV R)) : ∃ A cap, v = .slice A (R.map LD.sp).length cap ∧ RdSp w A (R.map LD.sp) := by
  rcases h.2 with ⟨rfl, hz⟩ | ⟨b, cap, cur, rfl, _, hg, _, _, _, hx⟩
  · have hR : R = [] := List.length_eq_zero_iff.1 hz
    subst hR
    exact ⟨none, 0, rfl, .inl rfl⟩
  · refine ⟨_, cap, by rw [List.length_map], .inr ⟨b, 0, rfl, fun k hk => ?_⟩⟩
    rw [List.length_map] at hk
    rw [sp_getD R hk]
    obtain ⟨h1, h2⟩ := spsV_get R hk
    have e : ∀ j, j < R.length * 2 → cur[j]? = (spsV R)[j]? := fun j hj => by
      rw [← hx, List.getElem?_take_of_lt hj, Array.getElem?_toList]
    refine ⟨?_, ?_⟩
    · rw [Nat.zero_add, cell_of_row w b _ cur _ (0, 0) hg, e _ (by omega), h1]; rfl
    · rw [Nat.zero_add, cell_of_row w b _ cur _ (0, 0) hg, e _ (by omega), h2]; rfl
/-- Block g is a Ram in which R is loaded; v is its list of spans. -/
def RMX (w : World) (g : Nat) (v : Value) (R : List LD) : Prop := ∃ B, MB B R ∧ Arr w g 33 (ramC true B v) ∧ w.ownsRow 0 47 2 v R.length (spsV R)
def fpM (g : Nat) (v : Value) (k : Nat) : Prop := k = g ∨ v.ownBlock = some k
def RMB (w : World) (q : Option Addr) (F : Nat → Prop) (R : List LD) : Prop := ∃ g v, q = some ⟨g, 0, none⟩ ∧ F = fpM g v ∧ RMX w g v R
theorem tyneM : (33 : Nat) ≠ 47 := by decide
section
variable {w w' : World} {g : Nat} {v : Value} {R : List LD}
theorem RMX.below (h : RMX w g v R) (hb : Below w.heap.size w w') : RMX w' g v R := by
  obtain ⟨B, h1, h2, h3⟩ := h
  exact ⟨B, h1, h2.below hb h2.lt, ow_below h3 hb⟩
theorem RMX.lt (h : RMX w g v R) : g < w.heap.size := by obtain ⟨_, _, h2, _⟩ := h; exact h2.lt
theorem RMX.foot (h : RMX w g v R) {k : Nat} (hk : fpM g v k) : k < w.heap.size := by
  obtain ⟨_, _, h2, h3⟩ := h
  rcases hk with rfl | hk
  · exact h2.lt
  · exact ow_block h3 hk
theorem RMX.kept (h : RMX w g v R) {G G' : Nat → Prop} (hm : Moved w w' G G') (hn : ∀ k, fpM g v k → ¬ G k) : RMX w' g v R := by
  obtain ⟨B, h1, h2, h3⟩ := h
  refine ⟨B, h1, hm.arr h2 (hn g (.inl rfl)), h3.1, ?_⟩
  rcases h3.2 with h4 | ⟨b, cap, cur, rfl, hb, hg, rest⟩
  · exact .inl h4
  · exact .inr ⟨b, cap, cur, rfl, hb, (hm.block b (Array.getElem?_eq_some_iff.1 hg).1 (hn b (.inr rfl))).trans hg, rest⟩
end
end Go.Proofs.Ytecfdcibjmakeaa
