/- What the document's Put returns. Conditions: a slice that reads as tokens, each name and value of at most 2^20 bytes. -/
import Derived.Test.YtmgmpjgofolkgaaMg17
import Derived.Test.YtmgmpjgofolkgaaMg36
import Derived.Deep.DeepCutAuto
import Derived.Test.YtmgmpjgofolkgaaMg5
namespace Go.Proofs.Ytmgmpjgofolkgaa
open Go.RowKit

theorem add_lists (a b : List UInt8) (h : a.length + b.length ≤ 1099511627776) (W : World) : (Op.stringOp .add ⟨a.toArray⟩ ⟨b.toArray⟩).run Try.prog W = .ok (.string ⟨(a ++ b).toArray⟩) W := by
  rw [run_string_add_sum W _ _ (by rw [size_mk, size_mk]; omega), ByteArray.mk_append_mk]
/-- The same, with letters for the strings. -/
theorem add_letters {x y z : ByteArray} (hz : z.data.toList = x.data.toList ++ y.data.toList) (h : x.size + y.size ≤ 1099511627776) (W : World) : (Op.stringOp .add x y).run Try.prog W = .ok (.string z) W := by
  have := add_lists x.data.toList y.data.toList h W
  rw [ba_of, ba_of, ← hz, ba_of] at this
  exact this
theorem mk_list (l : List UInt8) : (ByteArray.mk l.toArray).data.toList = l := by simp
theorem padL_le (l : List UInt8) : (padL l).length ≤ l.length + 3 := by rw [padL_length]; have := up4_lt l.length; omega
theorem encT_le {p : Nat} {x : TK} (hok : okT x = true) : (encT p x).length ≤ x.vl.size + 64 := by
  unfold encT
  split
  · rename_i h1
    unfold okT at hok
    rw [if_pos h1] at hok
    have hn : x.nm.size ≤ 31 := by
      unfold nodeB at hok
      rcases Bool.or_eq_true_iff.1 hok with h | h
      · have := of_decide_eq_true h; omega
      · exact (mayB_iff.1 h).2.1
    have := padL_le (x.nm.data.toList ++ [0])
    have hl : x.nm.data.toList.length = x.nm.size := rfl
    rw [List.length_append] at this ⊢
    rw [big_len]
    simp only [List.length_cons, List.length_nil] at this
    omega
  · split
    · have := padL_le x.vl.data.toList
      have hl : x.vl.data.toList.length = x.vl.size := rfl
      rw [List.length_append, List.length_append, List.length_append, big_len, big_len, big_len]
      omega
    · rw [big_len]; omega
theorem putS_le : ∀ (l : List TK) (B : List ByteArray), (∀ x ∈ l, okT x = true ∧ x.vl.size ≤ 1048576) → (putS B l).length ≤ l.length * 1048640
  | [], _, _ => Nat.zero_le _
  | x :: l, B, h => by
    have h1 := putS_le l (blkT B x) (fun y hy => h y (by simp [hy]))
    have h2 := encT_le (p := posn B x.nm) (h x (by simp)).1
    have h3 := (h x (by simp)).2
    show (encT _ x ++ putS (blkT B x) l).length ≤ _
    rw [List.length_append, List.length_cons]
    omega
theorem take_tk {l : List TK} {k : Nat} (hk : k < l.length) {x : TK} (hx : l.getD k tk0 = x) : l.take (k + 1) = l.take k ++ [x] := by
  rw [List.take_succ_eq_append_getElem hk, ← hx, List.getD_eq_getElem?_getD, List.getElem?_eq_getElem hk]; rfl
theorem all_bad {l : List TK} (k : Nat) (hk : k < l.length) (h : okT (l.getD k tk0) = false) : l.all okT = false := by
  cases e : l.all okT with
  | false => rfl
  | true =>
    have := List.all_eq_true.1 e (l.getD k tk0) (by rw [List.getD_eq_getElem?_getD, List.getElem?_eq_getElem hk]; exact List.getElem_mem _)
    rw [h] at this; cases this
theorem all_good {l : List TK} (h : ∀ k, k < l.length → okT (l.getD k tk0) = true) : l.all okT = true := by
  rw [List.all_eq_true]
  intro s hs
  obtain ⟨k, hk, rfl⟩ := List.getElem_of_mem hs
  have := h k hk
  rwa [List.getD_eq_getElem?_getD, List.getElem?_eq_getElem hk] at this
section
variable {B : Nat} {w w' : World} {g : Nat} {L : List ByteArray}
end
/-- How Put's ends are told. -/
theorem putR_big {l : List TK} (h : 1024 ≤ l.length) : putR l = (ByteArray.empty, ByteArray.empty, 7) := by unfold putR; rw [if_pos h]
theorem putR_bad {l : List TK} (h : ¬ 1024 ≤ l.length) (hb : l.all okT = false) : putR l = (ByteArray.empty, ByteArray.empty, 1) := by unfold putR; rw [if_neg h, hb]; rfl
theorem putR_good {l : List TK} (h : ¬ 1024 ≤ l.length) (hb : l.all okT = true) : putR l = (⟨(putS [] l ++ big 9).toArray⟩, ⟨(flat (putB [] l)).toArray⟩, 0) := by unfold putR; rw [if_neg h, hb]; rfl

end Go.Proofs.Ytmgmpjgofolkgaa

/- What package token must do, said over nothing of its code; and the awake() of layer 10's statements. Conditions: those contracts. -/
namespace Go.Proofs.Ytmgmpjgofolkgaa
open Go.RowKit

/-- A slice of tokens that a call has returned. -/
def Ret10 (w : World) (v : Value) (r : List TK) : Prop := ∃ A cap, v = .slice A r.length cap ∧ RdTk w A r ∧ r.length ≤ cap ∧ cap ≤ maxLen
theorem Got10.ret {B : Nat} {w : World} {v : Value} {r : List TK} (h : Got10 B w v r) : Ret10 w v r := by
  obtain ⟨A, cap, rfl, hr⟩ := row_rdTk h
  refine ⟨A, cap, rfl, hr, ?_⟩
  rcases h.2 with ⟨e, hz⟩ | ⟨g, cap', cur, e, _, _, hn, hm, _⟩
  · injection e with _ e2 e3
    subst e3
    exact ⟨by omega, Nat.zero_le _⟩
  · injection e with _ _ e3
    subst e3
    exact ⟨hn, hm⟩
/-- The tokens that awake() takes. -/
def l10 : List TK := [⟨1, ⟨#[]⟩, ⟨#[]⟩⟩, ⟨3, ⟨#[97]⟩, ⟨#[120, 121, 122]⟩⟩, ⟨4, ⟨#[]⟩, ⟨#[]⟩⟩, ⟨2, ⟨#[]⟩, ⟨#[]⟩⟩]
def s10 : ByteArray := ⟨#[0, 0, 0, 1, 0, 0, 0, 0, 0, 0, 0, 3, 0, 0, 0, 3, 0, 0, 0, 0, 120, 121, 122, 0, 0, 0, 0, 4, 0, 0, 0, 2, 0, 0, 0, 9]⟩
theorem put10 : putR l10 = (s10, ⟨#[97, 0]⟩, 0) := by rfl
theorem ok10 : okL (putB [] l10) := okL_putB l10 okL_nil
theorem read10 : readR 1024 s10.data.toList [97, 0] = (l10, 0) := by
  have h := readR_put l10 [] 1024 (by decide) ok10 (by decide) (by
    intro x hx
    simp only [l10, List.mem_cons, List.mem_nil_iff, or_false] at hx
    rcases hx with rfl | rfl | rfl | rfl <;> decide)
  exact h
theorem readx10 : readR 1024 (s10.data.toList ++ [120]) [97, 0] = ([], 6) := by rfl
theorem plain10 : (plainR l10).length = 3 := by rfl
theorem rdTk_new (w : World) (t : TypeId) (l : List TK) : RdTk (w.alloc (.cells (tkL l).toArray t)) (some ⟨w.heap.size, 0, none⟩) l := by
  have h := Arr.new w t (tkL l).toArray
  refine .inr ⟨w.heap.size, 0, rfl, fun k hk => ?_⟩
  obtain ⟨h1, h2, h3⟩ := tkL_at l hk
  refine ⟨?_, ?_, ?_⟩
  · rw [h.cell, Nat.zero_add, List.getElem?_toArray, h1]
  · rw [h.cell, Nat.zero_add, List.getElem?_toArray, h2]
  · rw [h.cell, Nat.zero_add, List.getElem?_toArray, h3]

end Go.Proofs.Ytmgmpjgofolkgaa

/- What Read of package token returns. Conditions: strings of at most 2^40 bytes. -/
namespace Go.Proofs.Ytmgmpjgofolkgaa
open Go.RowKit

/-- What a reader has found at a place: an error, the last token, or a token. -/
def TokIs (g : Nat) (s t : ByteArray) (a : Nat) (x : Int) (er : Nat) (W : World) : Prop :=
  ∃ (tk : TK) (sz pl : Int), Rdr W g s t tk.kd tk.nm tk.vl sz pl ∧
    ((er ≠ 0 ∧ stepR (s.data.toList.drop a) t.data.toList = .err er) ∨
     (er = 0 ∧ tk.kd = 9 ∧ a + 4 ≤ s.size ∧ frombig (s.data.toList.drop a) = 9 ∧ x = ((a + 4 : Nat) : Int)) ∨
     (er = 0 ∧ tk.kd ≠ 9 ∧ ∃ n, stepR (s.data.toList.drop a) t.data.toList = .tok tk n ∧ x = ((a + 4 + n : Nat) : Int) ∧ a + 4 + n ≤ s.size))
theorem tok_rest {g : Nat} {s t : ByteArray} {a : Nat} {x : Int} {er : Nat} {W : World} (ha : a + 4 ≤ s.size) (h : RestIs g s t (a + 4) (frombig (s.data.toList.drop a)) x er W) : TokIs g s t a x er W := by
  have hl : (s.data.toList.drop a).length = s.size - a := by rw [List.length_drop]; rfl
  have h4 : ¬ (s.data.toList.drop a).length < 4 := by omega
  have hd : s.data.toList.drop (a + 4) = (s.data.toList.drop a).drop 4 := by rw [List.drop_drop]
  obtain ⟨tk, sz, pl, hR, h⟩ := h
  refine ⟨tk, sz, pl, hR, ?_⟩
  rw [hd] at h
  rcases h with ⟨hk, bn, n, hb, h5⟩ | ⟨hk, tk', n, hp, h5⟩ | ⟨hk, h0, hx, htk⟩ | ⟨hk, h6⟩
  · obtain ⟨s1, s2⟩ := step_1 (tx := t.data.toList) h4 hk hb
    by_cases he : er = 0
    · obtain ⟨rfl, rfl⟩ := h5 he
      have hle := beginR_le (l := (s.data.toList.drop a).drop 4)
      rw [hb, List.length_drop, hl] at hle
      simp only at hle
      exact .inr (.inr ⟨he, (show (1 : Int) ≠ 9 by decide), n, s2 he, rfl, by omega⟩)
    · exact .inl ⟨he, s1 he⟩
  · obtain ⟨s1, s2⟩ := step_3 (tx := t.data.toList) h4 hk hp
    by_cases he : er = 0
    · obtain ⟨rfl, rfl⟩ := h5 he
      have hle := propR_le (l := (s.data.toList.drop a).drop 4) (tx := t.data.toList)
      rw [hp, List.length_drop, hl] at hle
      simp only at hle
      subst he
      obtain ⟨nm, vx, rfl, _⟩ := propR_ok hp
      exact .inr (.inr ⟨rfl, (show (3 : Int) ≠ 9 by decide), n, s2 rfl, rfl, by omega⟩)
    · exact .inl ⟨he, s1 he⟩
  · subst h0; subst hx; subst htk
    by_cases h9 : frombig (s.data.toList.drop a) = 9
    · exact .inr (.inl ⟨rfl, h9, ha, h9, rfl⟩)
    · refine .inr (.inr ⟨rfl, h9, 0, step_24 h4 (by omega), by simp, by omega⟩)
  · subst h6
    exact .inl ⟨by decide, step_no h4 (fun h => hk (.inl h)) (fun h => hk (.inr (.inl h))) (fun h => hk (by omega)) (fun h => hk (by omega))⟩

def readSteps : List Nat := [41, 42]
/-- The two steps as they lie in memory. -/
def stepC (g : Nat) : Array Value := #[.func (.func 41) #[.pointer (some ⟨g, 0, none⟩)] #[], .func (.func 42) #[.pointer (some ⟨g, 0, none⟩)] #[]]
theorem tok_any (g : Nat) (s t : ByteArray) (kd : Int) (nm vl : ByteArray) (sz pl : Int) (a : Nat) (w : World) (hA : Rdr w g s t kd nm vl sz pl) (ha : a ≤ s.size) (hm : s.size ≤ 1099511627776) (ht : t.size ≤ maxLen) :
    Calls Try.prog 40 #[.int .i64 (a : Int), .slice (some ⟨w.heap.size, 0, none⟩) 2 2] (w.alloc (.cells (stepC g) 100)) fun e w' => ∃ (nx : Int) (er : Nat), e = .returned (.tuple #[.int .i64 nx, .int .i64 (er : Int)]) ∧ w.grownBy w' (some g) ∧ TokIs g s t a nx er w' := by
  have hgl := Arr.lt hA
  have hl : (s.data.toList.drop a).length = s.size - a := by rw [List.length_drop]; rfl
  have h := advance_any g w.heap.size readSteps 2 (fun k x W => match k with
    | 0 => x = (a : Int) ∧ Rdr W g s t kd nm vl sz pl
    | 1 => a + 4 ≤ s.size ∧ x = ((a + 4 : Nat) : Int) ∧ Rdr W g s t (frombig (s.data.toList.drop a)) ByteArray.empty ByteArray.empty sz pl
    | _ => TokIs g s t a x 0 W) (TokIs g s t a) (a : Int) (w.alloc (.cells (stepC g) 100)) (by omega) ?_ ?_ (by decide) ?_ ⟨rfl, Arr.alloc hA _⟩ ?_ (fun x W h => h)
  · refine h.mono ?_
    rintro e w' ⟨nx, er, rfl, q1, q2⟩
    exact ⟨nx, er, rfl, World.grownBy.trans (gr_below ((Below.refl _ _).alloc (Nat.le_refl _) _)) q1, q2⟩
  · intro k hk
    have hk2 : k < 2 := hk
    have hA := Arr.new w 100 (stepC g)
    match k, hk2 with
    | 0, _ => exact hA.cell 0
    | 1, _ => exact hA.cell 1
  · rw [sz_alloc]; omega
  · intro k hk
    have hk2 : k < 2 := hk
    match k, hk2 with
    | 0, _ => exact ent_kind
    | 1, _ => exact ent_rest
  · intro k hk x W hI
    have hk2 : k < 2 := hk
    match k, hk2 with
    | 0, _ =>
      obtain ⟨rfl, hR⟩ := hI
      refine (kind_any g s t kd nm vl sz pl a W hR ha hm).mono ?_
      rintro e W' ⟨⟨h1, h2⟩, h3⟩
      by_cases h : s.size < a + 4
      · obtain ⟨rfl, h4⟩ := h1 h
        refine ⟨0, 14, rfl, h3, (fun h => by cases h), fun _ => ⟨⟨0, _, _⟩, sz, pl, h4, .inl ⟨by decide, ?_⟩⟩⟩
        unfold stepR
        rw [if_pos (by omega)]
      · obtain ⟨rfl, h4⟩ := h2 (by omega)
        exact ⟨_, 0, rfl, h3, fun _ => ⟨by omega, rfl, h4⟩, fun h => absurd rfl h⟩
    | 1, _ =>
      obtain ⟨h4, rfl, hR⟩ := hI
      refine (rest_any g s t _ sz pl (a + 4) W hR h4 hm ht).mono ?_
      rintro e W' ⟨nx, er, rfl, q1, q2⟩
      have hT := tok_rest h4 q2
      refine ⟨nx, er, rfl, q1, fun h0 => ?_, fun h0 => ?_⟩
      · subst h0; exact hT
      · obtain ⟨tk, sz', pl', hR', h6⟩ := hT
        refine ⟨tk, sz', pl', hR', ?_⟩
        rcases h6 with h6 | ⟨h6, _⟩ | ⟨h6, _⟩
        · exact .inl h6
        · exact absurd h6 h0
        · exact absurd h6 h0
end Go.Proofs.Ytmgmpjgofolkgaa
