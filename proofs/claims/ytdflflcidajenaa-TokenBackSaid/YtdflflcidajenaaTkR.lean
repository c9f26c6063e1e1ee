/- What Read of package token returns. Conditions: strings of at most 2^40 bytes. -/
import Derived.Test.YtdflflcidajenaaTkQ
import Derived.Test.YtdflflcidajenaaTkI
namespace Go.Proofs.Ytdflflcidajenaa
open Go.RowKit

/-- What a reader has found at a place: an error, the last token, or a token. -/
def TokIs (g : Nat) (s t : ByteArray) (a : Nat) (x : Int) (er : Nat) (W : World) : Prop :=
  ∃ (tk : TK) (sz pl : Int), Rdr W g s t tk.kd tk.nm tk.vl sz pl ∧
    ((er ≠ 0 ∧ stepR (s.data.toList.drop a) t.data.toList = .err er) ∨
     (er = 0 ∧ tk.kd = 9 ∧ a + 4 ≤ s.size ∧ frombig (s.data.toList.drop a) = 9 ∧ x = ((a + 4 : Nat) : Int)) ∨
     (er = 0 ∧ tk.kd ≠ 9 ∧ ∃ n, stepR (s.data.toList.drop a) t.data.toList = .tok tk n ∧ x = ((a + 4 + n : Nat) : Int) ∧ a + 4 + n ≤ s.size))
theorem tok_rest {g : Nat} {s t : ByteArray} {a : Nat} {x : Int} {er : Nat} {W : World} (ha : a + 4 ≤ s.size) (h : RestIs g s t (a + 4) (frombig (s.data.toList.drop a)) x er W) : TokIs g s t a x er W := by
  have hl : (s.data.toList.drop a).length = s.size - a := by rw [List.length_drop]; rfl
  have h4 : ¬ (s.data.toList.drop a).length < 4 := by omega
  have hd : s.data.toList.drop (a + 4) = (s.data.toList.drop a).drop 4 := by rw [List.drop_drop]
  obtain ⟨tk, sz, pl, hR, h⟩ := h
  refine ⟨tk, sz, pl, hR, ?_⟩
  rw [hd] at h
  rcases h with ⟨hk, bn, n, hb, h5⟩ | ⟨hk, tk', n, hp, h5⟩ | ⟨hk, h0, hx, htk⟩ | ⟨hk, h6⟩
  · obtain ⟨s1, s2⟩ := step_1 (tx := t.data.toList) h4 hk hb
    by_cases he : er = 0
    · obtain ⟨rfl, rfl⟩ := h5 he
      have hle := beginR_le (l := (s.data.toList.drop a).drop 4)
      rw [hb, List.length_drop, hl] at hle
      simp only at hle
      exact .inr (.inr ⟨he, (show (1 : Int) ≠ 9 by decide), n, s2 he, rfl, by omega⟩)
    · exact .inl ⟨he, s1 he⟩
  · obtain ⟨s1, s2⟩ := step_3 (tx := t.data.toList) h4 hk hp
    by_cases he : er = 0
    · obtain ⟨rfl, rfl⟩ := h5 he
      have hle := propR_le (l := (s.data.toList.drop a).drop 4) (tx := t.data.toList)
      rw [hp, List.length_drop, hl] at hle
      simp only at hle
      subst he
      obtain ⟨nm, vx, rfl, _⟩ := propR_ok hp
      exact .inr (.inr ⟨rfl, (show (3 : Int) ≠ 9 by decide), n, s2 rfl, rfl, by omega⟩)
    · exact .inl ⟨he, s1 he⟩
  · subst h0; subst hx; subst htk
    by_cases h9 : frombig (s.data.toList.drop a) = 9
    · exact .inr (.inl ⟨rfl, h9, ha, h9, rfl⟩)
    · refine .inr (.inr ⟨rfl, h9, 0, step_24 h4 (by omega), by simp, by omega⟩)
  · subst h6
    exact .inl ⟨by decide, step_no h4 (fun h => hk (.inl h)) (fun h => hk (.inr (.inl h))) (fun h => hk (by omega)) (fun h => hk (by omega))⟩

def readSteps : List Nat := [27, 28]
/-- The two steps as they lie in memory. -/
def stepC (g : Nat) : Array Value := #[.func (.func 27) #[.pointer (some ⟨g, 0, none⟩)] #[], .func (.func 28) #[.pointer (some ⟨g, 0, none⟩)] #[]]
theorem tok_any (g : Nat) (s t : ByteArray) (kd : Int) (nm vl : ByteArray) (sz pl : Int) (a : Nat) (w : World) (hA : Rdr w g s t kd nm vl sz pl) (ha : a ≤ s.size) (hm : s.size ≤ 1099511627776) (ht : t.size ≤ maxLen) :
    Calls Try.prog 26 #[.int .i64 (a : Int), .slice (some ⟨w.heap.size, 0, none⟩) 2 2] (w.alloc (.cells (stepC g) 81)) fun e w' => ∃ (nx : Int) (er : Nat), e = .returned (.tuple #[.int .i64 nx, .int .i64 (er : Int)]) ∧ w.grownBy w' (some g) ∧ TokIs g s t a nx er w' := by
  have hgl := Arr.lt hA
  have hl : (s.data.toList.drop a).length = s.size - a := by rw [List.length_drop]; rfl
  have h := advance_any g w.heap.size readSteps 2 (fun k x W => match k with
    | 0 => x = (a : Int) ∧ Rdr W g s t kd nm vl sz pl
    | 1 => a + 4 ≤ s.size ∧ x = ((a + 4 : Nat) : Int) ∧ Rdr W g s t (frombig (s.data.toList.drop a)) ByteArray.empty ByteArray.empty sz pl
    | _ => TokIs g s t a x 0 W) (TokIs g s t a) (a : Int) (w.alloc (.cells (stepC g) 81)) (by omega) ?_ ?_ (by decide) ?_ ⟨rfl, Arr.alloc hA _⟩ ?_ (fun x W h => h)
  · refine h.mono ?_
    rintro e w' ⟨nx, er, rfl, q1, q2⟩
    exact ⟨nx, er, rfl, World.grownBy.trans (gr_below ((Below.refl _ _).alloc (Nat.le_refl _) _)) q1, q2⟩
  · intro k hk
    have hk2 : k < 2 := hk
    have hA := Arr.new w 81 (stepC g)
    match k, hk2 with
    | 0, _ => exact hA.cell 0
    | 1, _ => exact hA.cell 1
  · rw [sz_alloc]; omega
  · intro k hk
    have hk2 : k < 2 := hk
    match k, hk2 with
    | 0, _ => exact ent_kind
    | 1, _ => exact ent_rest
  · intro k hk x W hI
    have hk2 : k < 2 := hk
    match k, hk2 with
    | 0, _ =>
      obtain ⟨rfl, hR⟩ := hI
      refine (kind_any g s t kd nm vl sz pl a W hR ha hm).mono ?_
      rintro e W' ⟨⟨h1, h2⟩, h3⟩
      by_cases h : s.size < a + 4
      · obtain ⟨rfl, h4⟩ := h1 h
        refine ⟨0, 14, rfl, h3, (fun h => by cases h), fun _ => ⟨⟨0, _, _⟩, sz, pl, h4, .inl ⟨by decide, ?_⟩⟩⟩
        unfold stepR
        rw [if_pos (by omega)]
      · obtain ⟨rfl, h4⟩ := h2 (by omega)
        exact ⟨_, 0, rfl, h3, fun _ => ⟨by omega, rfl, h4⟩, fun h => absurd rfl h⟩
    | 1, _ =>
      obtain ⟨h4, rfl, hR⟩ := hI
      refine (rest_any g s t _ sz pl (a + 4) W hR h4 hm ht).mono ?_
      rintro e W' ⟨nx, er, rfl, q1, q2⟩
      have hT := tok_rest h4 q2
      refine ⟨nx, er, rfl, q1, fun h0 => ?_, fun h0 => ?_⟩
      · subst h0; exact hT
      · obtain ⟨tk, sz', pl', hR', h6⟩ := hT
        refine ⟨tk, sz', pl', hR', ?_⟩
        rcases h6 with h6 | ⟨h6, _⟩ | ⟨h6, _⟩
        · exact .inl h6
        · exact absurd h6 h0
        · exact absurd h6 h0
end Go.Proofs.Ytdflflcidajenaa
