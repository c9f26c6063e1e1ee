/- NumBack returns true for all strings and every number. Conditions: the library's table uint64pow10 and its two error variables hold what their initialisers lay. -/
import Derived.Test.YtjohbbaoaffgnaaDoorNumTexts
namespace Go.Proofs.YtjohbbaoaffgnaaDoor
open Go.RowKit

theorem hex2_getD : ∀ (l : List UInt8) (i : Nat), i < l.length → (l.flatMap hex2).getD (2 * i) 0 = dig ((l.getD i 0).toNat / 16) ∧ (l.flatMap hex2).getD (2 * i + 1) 0 = dig ((l.getD i 0).toNat % 16)
  | [], i, h => absurd h (by simp)
  | b :: l, 0, _ => ⟨rfl, rfl⟩
  | b :: l, i + 1, h => by
    have ih := hex2_getD l i (by simpa using h)
    have e : (b :: l).flatMap hex2 = dig (b.toNat / 16) :: dig (b.toNat % 16) :: l.flatMap hex2 := rfl
    rw [e]
    exact ih
theorem hex2_length (l : List UInt8) : (l.flatMap hex2).length = 2 * l.length := by
  induction l with
  | nil => rfl
  | cons b l ih => rw [List.flatMap_cons, List.length_append, ih, List.length_cons]; simp [hex2]; omega
def hexB (l : List UInt8) : ByteArray := ⟨(l.flatMap hex2).toArray⟩
theorem hexB_size (l : List UInt8) : (hexB l).size = 2 * l.length := by unfold hexB; rw [size_mk, hex2_length]
theorem hexB_dgt (l : List UInt8) (i : Nat) (h : i < l.length) : dgt (hexB l) (2 * i) = ((l.getD i 0).toNat / 16 : Nat) ∧ dgt (hexB l) (2 * i + 1) = ((l.getD i 0).toNat % 16 : Nat) := by
  have hb := (l.getD i 0).toNat_lt
  obtain ⟨h1, h2⟩ := hex2_getD l i h
  unfold dgt hexB
  simp only
  rw [h1, h2, undig_dig _ (by omega), undig_dig _ (by omega)]
  exact ⟨rfl, rfl⟩
theorem two_cases (j : Nat) : ∃ i, j = 2 * i ∨ j = 2 * i + 1 := ⟨j / 2, by omega⟩
theorem hexB_ok (l : List UInt8) : ∀ j, j < (hexB l).size → 0 ≤ dgt (hexB l) j := by
  intro j hj
  rw [hexB_size] at hj
  rcases two_cases j with ⟨i, rfl | rfl⟩
  · rw [(hexB_dgt l i (by omega)).1]; omega
  · rw [(hexB_dgt l i (by omega)).2]; omega
theorem range_getD (l : List UInt8) : (List.range l.length).map (fun i => l.getD i 0) = l := by
  apply List.ext_getElem
  · simp
  · intro i h1 h2
    simp [List.getD, List.getElem?_eq_getElem h2]
theorem unhex_hexB (l : List UInt8) : unhex (hexB l) l.length = l := by
  unfold unhex
  rw [← range_getD l]
  simp only [List.length_map, List.length_range]
  apply List.map_congr_left
  intro i hi
  rw [range_getD]
  have hi' : i < l.length := by simpa using hi
  obtain ⟨h1, h2⟩ := hexB_dgt l i hi'
  rw [h1, h2]
  have hb := (l.getD i 0).toNat_lt
  apply UInt8.toNat_inj.1
  have e : (16 * (((l.getD i 0).toNat / 16 : Nat) : Int) + (((l.getD i 0).toNat % 16 : Nat) : Int)) = ((l.getD i 0).toNat : Int) := by omega
  rw [e]
  have := b8_toNat ((l.getD i 0).toNat : Int) (by omega) (by omega)
  omega
/-- What is read was written so. -/
theorem hex_unhex (t : ByteArray) (h : HexOk t) : (unhex t (t.size / 2)).flatMap hex2 = t.data.toList := by
  have h2 := h.1
  have hlen : t.data.toList.length = t.size := rfl
  apply List.ext_getElem
  · rw [hex2_length, unhex_length, hlen]; omega
  · intro j hj1 hj2
    have hv : ∀ k, k < t.size → dig (dgt t k).toNat = t.data.toList.getD k 0 := fun k hk => dig_undig _ (h.2 k hk)
    have hg : ∀ (l : List UInt8) (k : Nat) (hk : k < l.length), l[k] = l.getD k 0 := fun l k hk => by simp [List.getD, List.getElem?_eq_getElem hk]
    rw [hg _ _ hj1, hg _ _ hj2]
    rw [hlen] at hj2
    rcases two_cases j with ⟨i, rfl | rfl⟩
    · have hi : i < (unhex t (t.size / 2)).length := by rw [unhex_length]; omega
      rw [(hex2_getD _ i hi).1, ← hv (2 * i) hj2]
      have e : (unhex t (t.size / 2)).getD i 0 = b8 (16 * dgt t (2 * i) + dgt t (2 * i + 1)) := by
        rw [unhex_length] at hi
        simp [unhex, List.getD, hi]
      have b1 := dgt_bd t (2 * i); have b2 := dgt_bd t (2 * i + 1)
      have p1 := h.2 (2 * i) (by omega); have p2 := h.2 (2 * i + 1) (by omega)
      have := b8_toNat (16 * dgt t (2 * i) + dgt t (2 * i + 1)) (by omega) (by omega)
      rw [e]
      congr 1
      omega
    · have hi : i < (unhex t (t.size / 2)).length := by rw [unhex_length]; omega
      rw [(hex2_getD _ i hi).2, ← hv (2 * i + 1) hj2]
      have e : (unhex t (t.size / 2)).getD i 0 = b8 (16 * dgt t (2 * i) + dgt t (2 * i + 1)) := by
        rw [unhex_length] at hi
        simp [unhex, List.getD, hi]
      have b1 := dgt_bd t (2 * i); have b2 := dgt_bd t (2 * i + 1)
      have p1 := h.2 (2 * i) (by omega); have p2 := h.2 (2 * i + 1) (by omega)
      have := b8_toNat (16 * dgt t (2 * i) + dgt t (2 * i + 1)) (by omega) (by omega)
      rw [e]
      congr 1
      omega
theorem nums_three (n : Int) : nums (bigs [n, 0, n] 3) 3 = [n % 4294967296, 0, n % 4294967296] := by
  have e0 : bigs [n, 0, n] 3 = big n ++ (big 0 ++ (big n ++ [])) := rfl
  have e1 : (bigs [n, 0, n] 3).drop 4 = big 0 ++ (big n ++ []) := rfl
  have e2 : (bigs [n, 0, n] 3).drop 8 = big n ++ [] := rfl
  show [frombig ((bigs [n, 0, n] 3).drop 0), frombig ((bigs [n, 0, n] 3).drop 4), frombig ((bigs [n, 0, n] 3).drop 8)] = _
  rw [List.drop_zero, e1, e2, e0, frombig_big, frombig_big, frombig_big]
  simp
end Go.Proofs.YtjohbbaoaffgnaaDoor
