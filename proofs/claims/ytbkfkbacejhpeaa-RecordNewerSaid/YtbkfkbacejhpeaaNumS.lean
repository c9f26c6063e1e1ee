/- What the document's own FromBigs returns for every string of at most 2^40 bytes. -/
import Derived.Test.YtbkfkbacejhpeaaNumR
namespace Go.Proofs.Ytbkfkbacejhpeaa
open Go.RowKit

theorem info_int : ∃ i, Try.prog.info? 3 = some i ∧ i.zero = some (.int .i64 0) ∧ i.size = 1 ∧ i.bytes = 8 := by
  have h : ((Try.prog.info? 3).map fun i => (i.zero, i.size, i.bytes)) = some (some (.int .i64 0), 1, 8) := by kernel_rfl
  obtain ⟨i, hi, he⟩ := Option.map_eq_some_iff.1 h
  simp only [Prod.mk.injEq] at he
  exact ⟨i, hi, he.1, he.2.1, he.2.2⟩

theorem extract_tail (s : ByteArray) (a : Nat) : (s.extract a s.size).data.toList = s.data.toList.drop a := by
  have e : (s.extract a s.size).data = s.data.extract a s.size := ByteArray.data_extract
  rw [e, Array.toList_extract]
  have hs : s.size = s.data.toList.length := rfl
  rw [List.extract_eq_take_drop, List.take_of_length_le (by rw [List.length_drop, ← hs]; omega)]
theorem extract_size (s : ByteArray) (a : Nat) : (s.extract a s.size).size = s.size - a := by
  rw [ByteArray.size_extract]; omega

theorem rdI_of_own {w : World} {base : Nat} {v : Value} {n : Nat} {l : List Int} (h : w.ownsRow base 3 1 v n (intVals l)) : ∃ A cap, v = .slice A l.length cap ∧ RdI w.heap.size w A l := by
  obtain ⟨hlen, hv⟩ := h
  have hn : n = l.length := by simp [intVals] at hlen; omega
  subst hn
  rcases hv with ⟨rfl, h0⟩ | ⟨g, cap, cur, rfl, hg, hc, _, _, _, ht⟩
  · exact ⟨none, 0, by rw [h0], .inl (List.length_eq_zero_iff.1 h0)⟩
  · refine ⟨_, cap, rfl, .inr ⟨g, 0, rfl, ?_, fun k hk => ?_⟩⟩
    · exact (Array.getElem?_eq_some_iff.1 hc).1
    · simp only [World.cell?, hc, Nat.zero_add]
      have h1 : (cur.toList.take (l.length * 1))[k]? = (intVals l)[k]? := by rw [ht]
      rw [List.getElem?_take, if_pos (by omega)] at h1
      simp only [intVals, List.getElem?_map, List.getElem?_eq_getElem hk, Option.map_some, Array.getElem?_toList] at h1
      simp [List.getD, List.getElem?_eq_getElem hk, h1]
end Go.Proofs.Ytbkfkbacejhpeaa
