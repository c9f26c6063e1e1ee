/- What the document's own FromBigs returns for every string of at most 2^40 bytes. -/
import Derived.Test.YtjphecfkjpfkeaaDoorNumR
import Derived.Test.YtjphecfkjpfkeaaDoorArr
import Derived.WalkKit
import Derived.WalkSpells
import Derived.Laws.AppendOwn
import Derived.Lib.Hide
namespace Go.Proofs.YtjphecfkjpfkeaaDoor
open Go.RowKit

theorem info_int : ∃ i, Tryd.prog.info? 3 = some i ∧ i.zero = some (.int .i64 0) ∧ i.size = 1 ∧ i.bytes = 8 := by
  have h : ((Tryd.prog.info? 3).map fun i => (i.zero, i.size, i.bytes)) = some (some (.int .i64 0), 1, 8) := by kernel_rfl
  obtain ⟨i, hi, he⟩ := Option.map_eq_some_iff.1 h
  simp only [Prod.mk.injEq] at he
  exact ⟨i, hi, he.1, he.2.1, he.2.2⟩

theorem extract_tail (s : ByteArray) (a : Nat) : (s.extract a s.size).data.toList = s.data.toList.drop a := by
  have e : (s.extract a s.size).data = s.data.extract a s.size := ByteArray.data_extract
  rw [e, Array.toList_extract]
  have hs : s.size = s.data.toList.length := rfl
  rw [List.extract_eq_take_drop, List.take_of_length_le (by rw [List.length_drop, ← hs]; omega)]
theorem extract_size (s : ByteArray) (a : Nat) : (s.extract a s.size).size = s.size - a := by
  rw [ByteArray.size_extract]; omega

theorem rdI_of_own {w : World} {base : Nat} {v : Value} {n : Nat} {l : List Int} (h : w.ownsRow base 3 1 v n (intVals l)) : ∃ A cap, v = .slice A l.length cap ∧ RdI w.heap.size w A l := by
  obtain ⟨hlen, hv⟩ := h
  have hn : n = l.length := by simp [intVals] at hlen; omega
  subst hn
  rcases hv with ⟨rfl, h0⟩ | ⟨g, cap, cur, rfl, hg, hc, _, _, _, ht⟩
  · exact ⟨none, 0, by rw [h0], .inl (List.length_eq_zero_iff.1 h0)⟩
  · refine ⟨_, cap, rfl, .inr ⟨g, 0, rfl, ?_, fun k hk => ?_⟩⟩
    · exact (Array.getElem?_eq_some_iff.1 hc).1
    · simp only [World.cell?, hc, Nat.zero_add]
      have h1 : (cur.toList.take (l.length * 1))[k]? = (intVals l)[k]? := by rw [ht]
      rw [List.getElem?_take, if_pos (by omega)] at h1
      simp only [intVals, List.getElem?_map, List.getElem?_eq_getElem hk, Option.map_some, Array.getElem?_toList] at h1
      simp [List.getD, List.getElem?_eq_getElem hk, h1]
end Go.Proofs.YtjphecfkjpfkeaaDoor

/- A slice of strings that came in, read as a list. No condition: nothing of the program stands in it. -/
namespace Go.Proofs.YtjphecfkjpfkeaaDoor
open Go.RowKit

/-- The slice at A reads as the strings l. -/
def RdT (w : World) (A : Option Addr) (l : List ByteArray) : Prop := l = [] ∨ ∃ b off, A = some ⟨b, off, none⟩ ∧ ∀ k, k < l.length → w.cell? ⟨b, off + k, none⟩ = some (.string (l.getD k ByteArray.empty))
theorem RdT.at_ {w : World} {A : Option Addr} {l : List ByteArray} (h : RdT w A l) {k : Nat} (hk : k < l.length) : ∃ b off x, A = some ⟨b, off, none⟩ ∧ w.cell? ⟨b, off + k, none⟩ = some (.string x) ∧ Hid (l.getD k ByteArray.empty = x) := by
  rcases h with rfl | ⟨b, off, rfl, hc⟩
  · simp at hk
  · exact ⟨b, off, _, rfl, hc k hk, rfl⟩
theorem RdT.below {w w' : World} {A : Option Addr} {l : List ByteArray} (h : RdT w A l) (hb : Below w.heap.size w w') : RdT w' A l := by
  rcases h with h | ⟨b, off, rfl, hc⟩
  · exact .inl h
  · refine .inr ⟨b, off, rfl, fun k hk => ?_⟩
    have hck := hc k hk
    rw [World.cell?_of_block (a := ⟨b, off + k, none⟩) (hb.block b (World.block_lt_of_cell? w _ hck))]
    exact hck
/-- Strings of a block that the call has laid. -/
theorem rdT_new (w : World) (t : TypeId) (l : List ByteArray) : RdT (w.alloc (.cells (l.map Value.string).toArray t)) (some ⟨w.heap.size, 0, none⟩) l := by
  have h := Arr.new w t (l.map Value.string).toArray
  refine .inr ⟨w.heap.size, 0, rfl, fun k hk => ?_⟩
  rw [h.cell, Nat.zero_add]
  simp [hk]
end Go.Proofs.YtjphecfkjpfkeaaDoor

/- Small general laws of this seat's proofs: one element appended to a slice that the call itself made. Conditions: the slice holds fewer than 2^47 bytes. -/
namespace Go.Proofs.YtjphecfkjpfkeaaDoor
open Go.RowKit

/-- t is a slice type whose elements, of type e, take one cell and so many bytes, with the zero value z. -/
def ElemIs (P : Program) (t e : TypeId) (z : Value) (bytes : Nat) : Prop :=
  P.underlying t = some (.slice e) ∧ z.cells.size = 1 ∧ ∃ i, P.info? e = some i ∧ i.zero = some z ∧ i.size = 1 ∧ i.bytes = bytes
theorem elemIs_mk {P : Program} {t e : TypeId} {z : Value} {bytes : Nat} (h0 : P.underlying t = some (.slice e)) (hz : z.cells.size = 1)
    (h : ((P.info? e).map fun i => (i.zero, i.size, i.bytes)) = some (some z, 1, bytes)) : ElemIs P t e z bytes := by
  obtain ⟨i, hi, he⟩ := Option.map_eq_some_iff.1 h
  simp only [Prod.mk.injEq] at he
  exact ⟨h0, hz, i, hi, he.1, he.2.1, he.2.2⟩
/-- 's = append(s, u)', s a slice of the call's own. -/
theorem append_one {P : Program} {ops : Array Oper} {rest : List Oper} {o : Oper} {a : Act} {Q : Exit → Act → World → Prop} {w : World} (hgd : o.guard = none) (s x : Operand) (t : TypeId)
    (ho : o.op = .call { callee := .builtin .append, args := #[s, x], argTypes := #[t, t] })
    (base : Nat) (e : TypeId) (z : Value) (bytes : Nat) (hel : Hid (ElemIs P t e z bytes)) (u : Value) (h1 : u.oneCell' = true)
    (v : Value) (n : Nat) (xs : List Value) (hs : a.eval s = v) (hown : w.ownsRow base e 1 v n xs) (hx : a.eval x = .slice (some ⟨w.heap.size, 0, none⟩) 1 1)
    (hn : (n + 1) * bytes ≤ 140737488355328) (hm : n + 1 ≤ maxLen) (hbase : base ≤ w.heap.size)
    (h : ∀ v' w', w'.ownsRow base e 1 v' (n + 1) (xs ++ [u]) → Below base w w' → wpList P ops Q rest (a.put o.dst v') w') : wpList P ops Q (o :: rest) a (w.alloc (.cells #[u] e)) := by
  obtain ⟨h0, hz, i, hi, hz0, hz1, hz2⟩ := hel.out
  refine wpList_append_own _ hgd s x t ho base e i z 1 bytes h0 hi hz0 hz1 hz2 hz (by decide) v n xs hs (hown.alloc _) ⟨w.heap.size, 0, none⟩ 1 1 [u] hx rfl ?_ ?_ hm hn (by simp; omega) ?_
  · intro j y hj
    match j, hj with
    | 0, hj => simp at hj; subst hj; simp [Addr.add]
  · intro y hy; simp at hy; subst hy; exact h1
  · intro v' w' ho' hg _
    exact h v' w' ho' (((Below.refl _ _).alloc hbase _).grown hg (by simp; omega) (fun g hg' => (hown.lt g hg').1))
end Go.Proofs.YtjphecfkjpfkeaaDoor
