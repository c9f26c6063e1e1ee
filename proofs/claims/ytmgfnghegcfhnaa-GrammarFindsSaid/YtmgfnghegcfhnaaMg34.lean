/- In a tree that is as it should be each node is found at its path, and each property by its name: in plain words. No condition: nothing of the program stands in it. -/
import Derived.Test.YtmgfnghegcfhnaaMg24
import Derived.Test.YtmgfnghegcfhnaaMg33
import Derived.Test.YtmgfnghegcfhnaaMg31
import Derived.Test.YtmgfnghegcfhnaaMg5
namespace Go.Proofs.Ytmgfnghegcfhnaa
open Go.RowKit

/-- Names that are as they should be. -/
theorem here_ok {m : ND} (h : here19 m = 0) : (∀ x ∈ m.ps, prop19 x.nm.data.toList = true) ∧ (∀ i, i < m.ps.length → ∀ k, k < i → (m.ps.getD i pr0).nm ≠ (m.ps.getD k pr0).nm) ∧ (∀ x ∈ m.ks, nodeR x.nm.data.toList = true) ∧ (∀ i, i < m.ks.length → ∀ k, k < i → (m.ks.getD i nd0).nm ≠ (m.ks.getD k nd0).nm) := by
  unfold here19 at h
  split at h
  · cases h
  · rename_i h1
    split at h
    · cases h
    · rename_i h2
      split at h
      · cases h
      · rename_i h3
        split at h
        · cases h
        · rename_i h4
          have h1 : (m.ps.all fun x => prop19 x.nm.data.toList) = true := by simpa using h1
          have h3 : (m.ks.all fun x => nodeR x.nm.data.toList) = true := by simpa using h3
          exact ⟨List.all_eq_true.1 h1, twice_of (by simpa using h2), List.all_eq_true.1 h3, twice_of (by simpa using h4)⟩
theorem here_kids {m : ND} (h : here19 m = 0) : KidsOk m := by
  obtain ⟨_, _, h3, h4⟩ := here_ok h
  refine ⟨fun x hx => ?_, fun i hi j hj e => h4 i hi j hj e.symm⟩
  obtain ⟨g1, g2, _⟩ := node_ok (h3 x hx)
  exact ⟨g1, g2⟩
theorem check_ok {n : ND} (h : check19 n = 0) : fitsR n = true ∧ ∀ q m, (q, m) ∈ walkR 8 [47] n → here19 m = 0 := by
  unfold check19 at h
  split at h
  · cases h
  · split at h
    · cases h
    · rename_i h2
      split at h
      · cases h
      · refine ⟨by simpa using h2, fun q m hq => first_zero h m ?_⟩
        exact List.mem_map.2 ⟨(q, m), hq, rfl⟩
/-- Each node is found at its path. -/
theorem check_finds {n : ND} (h : check19 n = 0) : ∀ q m, (q, m) ∈ walkR 8 [47] n → findR n q = some m :=
  walk_finds fun q m hq => here_kids ((check_ok h).2 q m hq)
/-- Each property is found by its name. -/
theorem here_value {m : ND} (h : here19 m = 0) {i : Nat} (hi : i < m.ps.length) : valR m (m.ps.getD i pr0).nm = some (m.ps.getD i pr0).vl := by
  obtain ⟨_, h2, _, _⟩ := here_ok h
  unfold valR
  rw [find_take (f := fun x : PR => decide (x.nm = (m.ps.getD i pr0).nm)) (d := pr0) hi (fun j hj => decide_eq_false fun e => h2 i hi j hj e.symm) (decide_eq_true rfl)]
  rfl
end Go.Proofs.Ytmgfnghegcfhnaa

/- What the document's own FromBigs returns for every string of at most 2^40 bytes. -/
namespace Go.Proofs.Ytmgfnghegcfhnaa
open Go.RowKit

theorem info_int : ∃ i, Try.prog.info? 3 = some i ∧ i.zero = some (.int .i64 0) ∧ i.size = 1 ∧ i.bytes = 8 := by
  have h : ((Try.prog.info? 3).map fun i => (i.zero, i.size, i.bytes)) = some (some (.int .i64 0), 1, 8) := by kernel_rfl
  obtain ⟨i, hi, he⟩ := Option.map_eq_some_iff.1 h
  simp only [Prod.mk.injEq] at he
  exact ⟨i, hi, he.1, he.2.1, he.2.2⟩

theorem extract_tail (s : ByteArray) (a : Nat) : (s.extract a s.size).data.toList = s.data.toList.drop a := by
  have e : (s.extract a s.size).data = s.data.extract a s.size := ByteArray.data_extract
  rw [e, Array.toList_extract]
  have hs : s.size = s.data.toList.length := rfl
  rw [List.extract_eq_take_drop, List.take_of_length_le (by rw [List.length_drop, ← hs]; omega)]
theorem extract_size (s : ByteArray) (a : Nat) : (s.extract a s.size).size = s.size - a := by
  rw [ByteArray.size_extract]; omega

theorem rdI_of_own {w : World} {base : Nat} {v : Value} {n : Nat} {l : List Int} (h : w.ownsRow base 3 1 v n (intVals l)) : ∃ A cap, v = .slice A l.length cap ∧ RdI w.heap.size w A l := by
  obtain ⟨hlen, hv⟩ := h
  have hn : n = l.length := by simp [intVals] at hlen; omega
  subst hn
  rcases hv with ⟨rfl, h0⟩ | ⟨g, cap, cur, rfl, hg, hc, _, _, _, ht⟩
  · exact ⟨none, 0, by rw [h0], .inl (List.length_eq_zero_iff.1 h0)⟩
  · refine ⟨_, cap, rfl, .inr ⟨g, 0, rfl, ?_, fun k hk => ?_⟩⟩
    · exact (Array.getElem?_eq_some_iff.1 hc).1
    · simp only [World.cell?, hc, Nat.zero_add]
      have h1 : (cur.toList.take (l.length * 1))[k]? = (intVals l)[k]? := by rw [ht]
      rw [List.getElem?_take, if_pos (by omega)] at h1
      simp only [intVals, List.getElem?_map, List.getElem?_eq_getElem hk, Option.map_some, Array.getElem?_toList] at h1
      simp [List.getD, List.getElem?_eq_getElem hk, h1]
end Go.Proofs.Ytmgfnghegcfhnaa

/- A slice of strings that came in, read as a list. No condition: nothing of the program stands in it. -/
namespace Go.Proofs.Ytmgfnghegcfhnaa
open Go.RowKit

/-- The slice at A reads as the strings l. -/
def RdT (w : World) (A : Option Addr) (l : List ByteArray) : Prop := l = [] ∨ ∃ b off, A = some ⟨b, off, none⟩ ∧ ∀ k, k < l.length → w.cell? ⟨b, off + k, none⟩ = some (.string (l.getD k ByteArray.empty))
theorem RdT.at_ {w : World} {A : Option Addr} {l : List ByteArray} (h : RdT w A l) {k : Nat} (hk : k < l.length) : ∃ b off x, A = some ⟨b, off, none⟩ ∧ w.cell? ⟨b, off + k, none⟩ = some (.string x) ∧ Hid (l.getD k ByteArray.empty = x) := by
  rcases h with rfl | ⟨b, off, rfl, hc⟩
  · simp at hk
  · exact ⟨b, off, _, rfl, hc k hk, rfl⟩
theorem RdT.below {w w' : World} {A : Option Addr} {l : List ByteArray} (h : RdT w A l) (hb : Below w.heap.size w w') : RdT w' A l := by
  rcases h with h | ⟨b, off, rfl, hc⟩
  · exact .inl h
  · refine .inr ⟨b, off, rfl, fun k hk => ?_⟩
    have hck := hc k hk
    rw [World.cell?_of_block (a := ⟨b, off + k, none⟩) (hb.block b (World.block_lt_of_cell? w _ hck))]
    exact hck
/-- Strings of a block that the call has laid. -/
theorem rdT_new (w : World) (t : TypeId) (l : List ByteArray) : RdT (w.alloc (.cells (l.map Value.string).toArray t)) (some ⟨w.heap.size, 0, none⟩) l := by
  have h := Arr.new w t (l.map Value.string).toArray
  refine .inr ⟨w.heap.size, 0, rfl, fun k hk => ?_⟩
  rw [h.cell, Nat.zero_add]
  simp [hk]
end Go.Proofs.Ytmgfnghegcfhnaa
