/- What was loaded is read back, in plain words; the acts of layer 7 in memory; a list of acts of the call's own that tells what was loaded. No condition. -/
import Derived.Test.YtecfdcibjmakeaaRaI
namespace Go.Proofs.Ytecfdcibjmakeaa
open Go.RowKit

/-- The byte at a place of a loaded span. -/
theorem byR_of : ∀ (R : List LD), RamOk R → ∀ i, i < R.length → ∀ j, (R.getD i ld0).p ≤ j → j < (R.getD i ld0).p + (R.getD i ld0).s.size → byR R j = (R.getD i ld0).s.data.toList.getD (j - (R.getD i ld0).p) 0 := by
  intro R
  induction hn : R.length generalizing R with
  | zero => intro _ i hi; omega
  | succ n ih =>
    intro hok i hi j h1 h2
    obtain ⟨x, hx⟩ : ∃ x, R.getD n ld0 = x := ⟨_, rfl⟩
    have hR : R = R.take n ++ [x] := by
      have := List.take_succ_eq_append_getElem (l := R) (i := n) (by omega)
      rw [List.take_of_length_le (by omega)] at this
      have e : x = R[n]'(by omega) := by rw [← hx, List.getD, List.getElem?_eq_getElem (by omega)]; rfl
      rw [e]; exact this
    have hl : (R.take n).length = n := by rw [List.length_take]; omega
    have hg : ∀ k, k < n → (R.take n).getD k ld0 = R.getD k ld0 := fun k hk => by
      rw [List.getD_eq_getElem?_getD, List.getD_eq_getElem?_getD, List.getElem?_take_of_lt hk]
    rw [hR, byR_snoc, ← hR]
    by_cases hc : x.p ≤ j ∧ j < x.p + x.s.size
    · rw [if_pos hc]
      by_cases hin : i = n
      · subst hin; rw [hx]
      · exfalso
        have := hok.2 n i (by omega) (by omega)
        rw [hx] at this
        have hm : meetS x.sp (R.getD i ld0).sp = true := meetS_true (by unfold LD.sp; simp only; omega)
        rw [hm] at this; cases this
    · rw [if_neg hc]
      have hin : i ≠ n := by rintro rfl; rw [hx] at h1 h2; exact hc ⟨h1, h2⟩
      have hok2 : RamOk (R.take n) := ⟨fun k hk => by rw [hl] at hk; rw [hg k hk]; exact hok.1 k (by omega), fun a b ha hb => by rw [hl] at ha; rw [hg a ha, hg b (by omega)]; exact hok.2 a b (by omega) hb⟩
      have := ih (R.take n) hl hok2 i (by omega) j (by rw [hg i (by omega)]; exact h1) (by rw [hg i (by omega)]; exact h2)
      rw [hg i (by omega)] at this
      exact this
/-- What was loaded is read back. -/
theorem rdR_back {R : List LD} (hok : RamOk R) {i : Nat} (hi : i < R.length) {p : Nat} {s : ByteArray} (hx : R.getD i ld0 = ⟨p, s⟩) : rdR R (p : Int) (s.size : Int) = (s, 0) := by
  unfold rdR
  have h1 := (hok.1 i hi).1
  rw [hx] at h1
  rw [if_pos (show insS ⟨(p : Int), (s.size : Int)⟩ = true from h1), Int.toNat_natCast, Int.toNat_natCast]
  have e : (List.range s.size).map (fun k => byR R (p + k)) = s.data.toList := by
    refine List.ext_getElem (by simp) fun k h2 h3 => ?_
    have hk : k < s.size := by simpa using h2
    have := byR_of R hok i hi (p + k) (by rw [hx]; simp only; omega) (by rw [hx]; simp only; omega)
    rw [hx] at this
    simp only [Nat.add_sub_cancel_left] at this
    simp only [List.getElem_map, List.getElem_range, this]
    rw [List.getD, List.getElem?_eq_getElem h3]; rfl
  rw [e]
/-- An act of layer 7. -/
structure RA where
  kind : Int
  p : Int
  n : Int
  s : ByteArray
def ra0 : RA := ⟨0, 0, 0, ⟨#[]⟩⟩
def RaAt (w : World) (b o : Nat) (x : RA) : Prop :=
  w.cell? ⟨b, o, none⟩ = some (.int .i64 x.kind) ∧ w.cell? ⟨b, o + 1, none⟩ = some (.int .i64 x.p) ∧ w.cell? ⟨b, o + 2, none⟩ = some (.int .i64 x.n) ∧ w.cell? ⟨b, o + 3, none⟩ = some (.string x.s)
def RdRa (w : World) (A : Option Addr) (L : List RA) : Prop := L = [] ∨ ∃ b off, A = some ⟨b, off, none⟩ ∧ ∀ k, k < L.length → RaAt w b (off + k * 4) (L.getD k ra0)
theorem RdRa.at_ {w : World} {A : Option Addr} {L : List RA} (h : RdRa w A L) {k : Nat} (hk : k < L.length) : ∃ b off x, A = some ⟨b, off, none⟩ ∧ RaAt w b (off + k * 4) x ∧ Hid (L.getD k ra0 = x) := by
  rcases h with rfl | ⟨b, off, rfl, hc⟩
  · simp at hk
  · exact ⟨b, off, _, rfl, hc k hk, rfl⟩
theorem RdRa.below {w w' : World} {A : Option Addr} {L : List RA} (h : RdRa w A L) (hb : Below w.heap.size w w') : RdRa w' A L := by
  rcases h with h | ⟨b, off, rfl, hc⟩
  · exact .inl h
  · refine .inr ⟨b, off, rfl, fun k hk => ?_⟩
    obtain ⟨h1, h2, h3, h4⟩ := hc k hk
    exact ⟨cell_below h1 hb, cell_below h2 hb, cell_below h3 hb, cell_below h4 hb⟩
/-- The numbers of acts are of 64 bits. -/
def FitsR (L : List RA) : Prop := ∀ k, k < L.length → (L.getD k ra0).p < 9223372036854775808 ∧ -9223372036854775808 ≤ (L.getD k ra0).p
/-- Values that tell, four by four, what was loaded. -/
def GotV (xs : List Value) (R : List LD) : Prop := xs.length = R.length * 4 ∧ ∀ k, k < R.length → xs[k * 4 + 1]? = some (.int .i64 ((R.getD k ld0).p : Int)) ∧ xs[k * 4 + 3]? = some (.string (R.getD k ld0).s)
theorem gotV_nil : GotV [] [] := ⟨rfl, fun _ h => absurd h (Nat.not_lt_zero _)⟩
theorem gotV_snoc {xs : List Value} {R : List LD} (h : GotV xs R) (p : Nat) (s : ByteArray) (v0 v2 : Value) : GotV (xs ++ [v0, .int .i64 (p : Int), v2, .string s]) (R ++ [⟨p, s⟩]) := by
  obtain ⟨h1, h2⟩ := h
  refine ⟨by simp only [List.length_append, List.length_cons, List.length_nil]; omega, fun k hk => ?_⟩
  simp only [List.length_append, List.length_cons, List.length_nil] at hk
  rw [snoc_getD]
  by_cases hl : k < R.length
  · rw [if_pos hl, List.getElem?_append_left (by omega), List.getElem?_append_left (by omega)]
    exact h2 k hl
  · obtain rfl : k = R.length := by omega
    rw [if_neg hl, if_pos rfl, List.getElem?_append_right (by omega), List.getElem?_append_right (by omega), show R.length * 4 + 1 - xs.length = 1 by omega, show R.length * 4 + 3 - xs.length = 3 by omega]
    exact ⟨rfl, rfl⟩
theorem got_cells {w : World} {v : Value} {n : Nat} {xs : List Value} {R : List LD} (h : w.ownsRow 0 36 4 v n xs) (hg : GotV xs R) : ∃ A cap, v = .slice A R.length cap ∧ ∀ k, k < R.length → ∃ b, A = some ⟨b, 0, none⟩ ∧ w.cell? ⟨b, k * 4 + 1, none⟩ = some (.int .i64 ((R.getD k ld0).p : Int)) ∧ w.cell? ⟨b, k * 4 + 3, none⟩ = some (.string (R.getD k ld0).s) := by
  have hn : n = R.length := by have := h.1; have := hg.1; omega
  subst hn
  rcases h.2 with ⟨rfl, hz⟩ | ⟨b, cap, cur, rfl, _, hh, _, _, _, hx⟩
  · exact ⟨none, 0, by rw [hz], fun k hk => by omega⟩
  · refine ⟨_, cap, rfl, fun k hk => ⟨b, rfl, ?_⟩⟩
    have e : ∀ j, j < R.length * 4 → cur[j]? = xs[j]? := fun j hj => by
      rw [← hx, List.getElem?_take_of_lt hj, Array.getElem?_toList]
    rw [cell_of_row w b _ cur _ (0, 0) hh, cell_of_row w b _ cur _ (0, 0) hh, e _ (by omega), e _ (by omega)]
    exact hg.2 k hk
theorem elemAct : Try.prog.underlying 22 = some (.slice 36) ∧ ∃ i, Try.prog.info? 36 = some i ∧ i.zero = some (.agg #[.int .i64 0, .int .i64 0, .int .i64 0, .string ⟨#[]⟩]) ∧ i.size = 4 ∧ i.bytes = 40 := by
  have h : ((Try.prog.info? 36).map fun i => (i.zero, i.size, i.bytes)) = some (some (.agg #[.int .i64 0, .int .i64 0, .int .i64 0, .string ⟨#[]⟩]), 4, 40) := by kernel_rfl
  obtain ⟨i, hi, he⟩ := Option.map_eq_some_iff.1 h
  simp only [Prod.mk.injEq] at he
  exact ⟨Try.underlying22, i, hi, he.1, he.2.1, he.2.2⟩
end Go.Proofs.Ytecfdcibjmakeaa
