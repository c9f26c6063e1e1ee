/- The document's Make of layer 17. Conditions: a tree of few parts that is read; paths of at most 10^6 bytes. -/
import Derived.Test.YtfcclppgjfkfoaaGreatDoorMg15
import Derived.Test.YtfcclppgjfkfoaaGreatDoorMg11
import Derived.Test.YtfcclppgjfkfoaaGreatDoorMg4
import Derived.Test.YtfcclppgjfkfoaaGreatDoorMg2
namespace Go.Proofs.YtfcclppgjfkfoaaGreatDoor
open Go.RowKit

section
variable {w w' : World} {G : Nat → Prop} {y : ND} {ua ub : Option Addr} {uc ud : Nat}
/-- A node that a region lays in a variable behind a call, or ahead of it: what it leaves. -/
theorem lay_after {B : Nat} {W : World} (hb : Below B W w) (hB : B ≤ W.heap.size) : Below B W (w.alloc (.cells #[.string ⟨#[]⟩, .slice none 0 0, .slice none 0 0] 28)) ∧ Below B W (w.alloc (.cells #[.string y.nm, .slice ua y.ps.length uc, .slice ub y.ks.length ud] 28)) ∧ Arr (w.alloc (.cells #[.string y.nm, .slice ua y.ps.length uc, .slice ub y.ks.length ud] 28)) w.heap.size 28 #[.string y.nm, .slice ua y.ps.length uc, .slice ub y.ks.length ud] ∧ (NdAt w G y (.slice ua y.ps.length uc) (.slice ub y.ks.length ud) → NdAt (w.alloc (.cells #[.string y.nm, .slice ua y.ps.length uc, .slice ub y.ks.length ud] 28)) G y (.slice ua y.ps.length uc) (.slice ub y.ks.length ud)) := by
  have hz := Nat.le_trans hB hb.size
  exact ⟨hb.alloc hz _, hb.alloc hz _, Arr.new w _ _, fun h => nd_below h ((Below.refl _ _).alloc (Nat.le_refl _) _)⟩
theorem lay_before {B g : Nat} {W : World} (hb : Below B W w) (hg : B ≤ g) (hA : Arr w g 28 #[.string ⟨#[]⟩, .slice none 0 0, .slice none 0 0]) :
    w.cell? ⟨g, 0, none⟩ = some (.string ⟨#[]⟩) ∧ w.cell? ⟨g, 1, none⟩ = some (.slice none 0 0) ∧ w.cell? ⟨g, 2, none⟩ = some (.slice none 0 0) ∧ w.frozen? ⟨g, 0, none⟩ = false ∧ w.frozen? ⟨g, 1, none⟩ = false ∧ w.frozen? ⟨g, 2, none⟩ = false ∧
    Below B W (((w.setCell ⟨g, 0, none⟩ (.string y.nm)).setCell ⟨g, 1, none⟩ (.slice ua y.ps.length uc)).setCell ⟨g, 2, none⟩ (.slice ub y.ks.length ud)) ∧ Arr (((w.setCell ⟨g, 0, none⟩ (.string y.nm)).setCell ⟨g, 1, none⟩ (.slice ua y.ps.length uc)).setCell ⟨g, 2, none⟩ (.slice ub y.ks.length ud)) g 28 #[.string y.nm, .slice ua y.ps.length uc, .slice ub y.ks.length ud] ∧ (NdAt w G y (.slice ua y.ps.length uc) (.slice ub y.ks.length ud) → (∀ k, G k → k ≠ g) → NdAt (((w.setCell ⟨g, 0, none⟩ (.string y.nm)).setCell ⟨g, 1, none⟩ (.slice ua y.ps.length uc)).setCell ⟨g, 2, none⟩ (.slice ub y.ks.length ud)) G y (.slice ua y.ps.length uc) (.slice ub y.ks.length ud)) := by
  refine ⟨hA.cell 0, hA.cell 1, hA.cell 2, hA.frozen 0, hA.frozen 1, hA.frozen 2, ((hb.setCell (p := ⟨g, 0, none⟩) hg _).setCell (p := ⟨g, 1, none⟩) hg _).setCell (p := ⟨g, 2, none⟩) hg _, ((hA.put 0 _).put 1 _).put 2 _, fun h hn => ?_⟩
  have M : Moved w (((w.setCell ⟨g, 0, none⟩ (.string y.nm)).setCell ⟨g, 1, none⟩ (.slice ua y.ps.length uc)).setCell ⟨g, 2, none⟩ (.slice ub y.ks.length ud)) (fun k => k = g) (fun k => k = g) := ((Moved.grown (gr_cell w g 0 _) (fun k hk => by injection hk with hk; exact hk.symm) (fun k hk => .inl hk)).trans (Moved.grown (gr_cell _ g 1 _) (fun k hk => by injection hk with hk; exact hk.symm) (fun k hk => .inl hk))).trans (Moved.grown (gr_cell _ g 2 _) (fun k hk => by injection hk with hk; exact hk.symm) (fun k hk => .inl hk))
  exact h.kept M fun k hk e => hn k hk e
end

end Go.Proofs.YtfcclppgjfkfoaaGreatDoor

/- What package edit must do (EditMust); the law's do, wants and few of layer 17 over it. Conditions: trees of at most 12 levels and few parts; paths, names and values of at most 10^6 bytes. -/
namespace Go.Proofs.YtfcclppgjfkfoaaGreatDoor
open Go.RowKit

/-- A tree that was changed, or why it was not: what a call gives. -/
def Ed (G : Nat → Prop) (T : ND × Nat) (w : World) (e : Ending) (w' : World) : Prop :=
  ∃ u2 u3, e = .returned (.tuple #[.agg #[.string T.1.nm, u2, u3], .int .i64 (T.2 : Nat)]) ∧ NdAt w' (OrNew G w.heap.size) T.1 u2 u3 ∧ Below w.heap.size w w'
/-- The contracts of package edit. -/
structure EditMust : Prop where
  set : ∀ (G : Nat → Prop) (n : ND) (y z : Value) (p nm vl : ByteArray) (w : World), SzT n → p.size ≤ 1000000 → nm.size ≤ 1000000 → vl.size ≤ 1000000 → NdAt w G n y z → Calls Tryz.prog 18 #[.agg #[.string n.nm, y, z], .string p, .string nm, .string vl] w (Ed G (doR17 n p.data.toList ⟨1, nm, vl⟩) w)
  unset : ∀ (G : Nat → Prop) (n : ND) (y z : Value) (p nm : ByteArray) (w : World), SzT n → p.size ≤ 1000000 → nm.size ≤ 1000000 → NdAt w G n y z → Calls Tryz.prog 19 #[.agg #[.string n.nm, y, z], .string p, .string nm] w (Ed G (doR17 n p.data.toList ⟨2, nm, ⟨#[]⟩⟩) w)
  add : ∀ (G : Nat → Prop) (n : ND) (y z : Value) (p nm : ByteArray) (w : World), SzT n → p.size ≤ 1000000 → nm.size ≤ 1000000 → NdAt w G n y z → Calls Tryz.prog 20 #[.agg #[.string n.nm, y, z], .string p, .string nm] w (Ed G (doR17 n p.data.toList ⟨3, nm, ⟨#[]⟩⟩) w)
  drop : ∀ (G : Nat → Prop) (n : ND) (y z : Value) (p : ByteArray) (w : World), SzT n → p.size ≤ 1000000 → NdAt w G n y z → Calls Tryz.prog 21 #[.agg #[.string n.nm, y, z], .string p] w (Ed G (dropR17 n p.data.toList) w)
  make : ∀ (G : Nat → Prop) (n : ND) (y z : Value) (p : ByteArray) (w : World), SzT n → p.size ≤ 1000000 → NdAt w G n y z → Calls Tryz.prog 12 #[.agg #[.string n.nm, y, z], .string p] w (Ed G (makeR17 n p.data.toList) w)

theorem props_vl {k : Int} (hk : k ≠ 1) (nm v v' : ByteArray) : k = 2 → ∀ l : List PR, propsR ⟨k, nm, v⟩ l = propsR ⟨k, nm, v'⟩ l
  | h2, [] => by unfold propsR; rw [if_neg hk, if_neg hk]
  | h2, x :: r => by
    unfold propsR
    rw [props_vl hk nm v v' h2 r]
    simp only [if_pos h2]
/-- What is set alone looks at the value. -/
theorem here_vl {k : Int} (hk : k ≠ 1) (nm v v' : ByteArray) (n : ND) : hereR n ⟨k, nm, v⟩ = hereR n ⟨k, nm, v'⟩ := by
  unfold hereR
  rw [if_neg hk, if_neg hk]
  by_cases h2 : k = 2
  · simp only [if_pos h2]
    rw [props_vl hk nm v v' h2]
  · simp only [if_neg h2]
theorem down_vl {k : Int} (hk : k ≠ 1) (nm v v' : ByteArray) : ∀ (l : List ByteArray) (n : ND), downR n l ⟨k, nm, v⟩ = downR n l ⟨k, nm, v'⟩
  | [], n => here_vl hk nm v v' n
  | x :: l, n => by
    rw [downR, downR]
    cases kidR n x with
    | none => rfl
    | some q => simp only [down_vl hk nm v v' l q]
theorem do_vl {k : Int} (hk : k ≠ 1) (nm v v' : ByteArray) (n : ND) (p : List UInt8) : doR17 n p ⟨k, nm, v⟩ = doR17 n p ⟨k, nm, v'⟩ := by
  unfold doR17
  rw [down_vl hk nm v v']
/-- What the law does: a change, or Drop (5), or Make. -/
def editR (n : ND) (p : List UInt8) (c : CH) : ND × Nat :=
  if c.kd = 1 ∨ c.kd = 2 ∨ c.kd = 3 then doR17 n p c else if c.kd = 5 then dropR17 n p else makeR17 n p

end Go.Proofs.YtfcclppgjfkfoaaGreatDoor

/- What edited of postiliontop gives. Conditions: the contracts of package edit; a tree of few parts. -/
namespace Go.Proofs.YtfcclppgjfkfoaaGreatDoor
open Go.RowKit

set_option maxHeartbeats 1600000 in
set_option maxRecDepth 100000 in
theorem edited_any (M : EditMust) (G : Nat → Prop) (n : ND) (y z : Value) (p : ByteArray) (c : CH) (w : World) (hl : SzT n) (hp : p.size ≤ 1000000) (h1 : c.nm.size ≤ 1000000) (h2 : c.vl.size ≤ 1000000) (hN : NdAt w G n y z) :
    Calls Tryz.prog 7 #[.agg #[.string n.nm, y, z], .string p, .agg #[.int .i64 c.kd, .string c.nm, .string c.vl]] w (Ed G (editR n p.data.toList c) w) := by
  obtain ⟨A2, K, pc, kc, rfl, rfl, hpc, hpm, hkc, hkm⟩ := nd_shape hN
  obtain ⟨kd, cn, cv⟩ := c
  simp only at h1 h2
  obtain ⟨W1, hW1⟩ : ∃ W1, W1 = ((w.alloc (.cells #[.string n.nm, .slice A2 n.ps.length pc, .slice K n.ks.length kc] 28)).alloc (.cells #[.int .i64 kd, .string cn, .string cv] 37)).alloc (.cells #[.string ⟨#[]⟩, .slice none 0 0, .slice none 0 0] 28) := ⟨_, rfl⟩
  obtain ⟨g3, hg3⟩ : ∃ g3, g3 = w.heap.size := ⟨_, rfl⟩
  obtain ⟨g5, hg5⟩ : ∃ g5, g5 = w.heap.size + 1 := ⟨_, rfl⟩
  obtain ⟨g6, hg6⟩ : ∃ g6, g6 = w.heap.size + 1 + 1 := ⟨_, rfl⟩
  have hB1 : Below w.heap.size w W1 := by rw [hW1]; exact (((Below.refl _ _).alloc (Nat.le_refl _) _).alloc (by rw [sz_alloc]; omega) _).alloc (by rw [sz_alloc, sz_alloc]; omega) _
  have hA3 : Arr W1 g3 28 #[.string n.nm, .slice A2 n.ps.length pc, .slice K n.ks.length kc] := by rw [hW1, hg3]; exact ((Arr.new w _ _).alloc _).alloc _
  have hA5 : Arr W1 g5 37 #[.int .i64 kd, .string cn, .string cv] := by rw [hW1, hg5]; exact (Arr.new1 w _ _ _).alloc _
  have hA6 : Arr W1 g6 28 #[.string ⟨#[]⟩, .slice none 0 0, .slice none 0 0] := by rw [hW1, hg6]; have h := Arr.new ((w.alloc (.cells #[.string n.nm, .slice A2 n.ps.length pc, .slice K n.ks.length kc] 28)).alloc (.cells #[.int .i64 kd, .string cn, .string cv] 37)) 28 #[.string ⟨#[]⟩, .slice none 0 0, .slice none 0 0]; rw [sz_alloc, sz_alloc] at h; exact h
  have HG6 : Hid (w.heap.size ≤ g6) := by unfold Hid; omega
  have HL6 := Lib.hid hA6.lt
  have HS1 := Lib.hid hB1.size
  have hN1 := nd_below (nd_and hN) hB1
  have HB1 := Lib.hid hB1
  have HA6 := Lib.hid hA6
  obtain ⟨T, hT⟩ : ∃ T, T = editR n p.data.toList ⟨kd, cn, cv⟩ := ⟨_, rfl⟩
  have HC1 : Hid (kd = 1 → Calls Tryz.prog 18 #[.agg #[.string n.nm, .slice A2 n.ps.length pc, .slice K n.ks.length kc], .string p, .string cn, .string cv] W1 (Ed (fun k => G k ∧ k < w.heap.size) T W1)) := fun h => by
    subst h
    have e : editR n p.data.toList ⟨1, cn, cv⟩ = doR17 n p.data.toList ⟨1, cn, cv⟩ := if_pos (.inl rfl)
    rw [hT, e]
    exact M.set _ n _ _ p cn cv W1 hl hp h1 h2 hN1
  have HC2 : Hid (kd = 2 → Calls Tryz.prog 19 #[.agg #[.string n.nm, .slice A2 n.ps.length pc, .slice K n.ks.length kc], .string p, .string cn] W1 (Ed (fun k => G k ∧ k < w.heap.size) T W1)) := fun h => by
    subst h
    have e : editR n p.data.toList ⟨2, cn, cv⟩ = doR17 n p.data.toList ⟨2, cn, cv⟩ := if_pos (.inr (.inl rfl))
    rw [hT, e, do_vl (by decide) cn cv ⟨#[]⟩]
    exact M.unset _ n _ _ p cn W1 hl hp h1 hN1
  have HC3 : Hid (kd = 3 → Calls Tryz.prog 20 #[.agg #[.string n.nm, .slice A2 n.ps.length pc, .slice K n.ks.length kc], .string p, .string cn] W1 (Ed (fun k => G k ∧ k < w.heap.size) T W1)) := fun h => by
    subst h
    have e : editR n p.data.toList ⟨3, cn, cv⟩ = doR17 n p.data.toList ⟨3, cn, cv⟩ := if_pos (.inr (.inr rfl))
    rw [hT, e, do_vl (by decide) cn cv ⟨#[]⟩]
    exact M.add _ n _ _ p cn W1 hl hp h1 hN1
  have HC5 : Hid (kd = 5 → Calls Tryz.prog 21 #[.agg #[.string n.nm, .slice A2 n.ps.length pc, .slice K n.ks.length kc], .string p] W1 (Ed (fun k => G k ∧ k < w.heap.size) T W1)) := fun h => by
    subst h
    have e : editR n p.data.toList ⟨5, cn, cv⟩ = dropR17 n p.data.toList := rfl
    rw [hT, e]
    exact M.drop _ n _ _ p W1 hl hp hN1
  have HC9 : Hid (¬ kd = 1 → ¬ kd = 2 → ¬ kd = 3 → ¬ kd = 5 → Calls Tryz.prog 12 #[.agg #[.string n.nm, .slice A2 n.ps.length pc, .slice K n.ks.length kc], .string p] W1 (Ed (fun k => G k ∧ k < w.heap.size) T W1)) := fun a b c d => by
    have e : editR n p.data.toList ⟨kd, cn, cv⟩ = makeR17 n p.data.toList := (if_neg (fun h => h.elim a fun h => h.elim b c)).trans (if_neg d)
    rw [hT, e]
    exact M.make _ n _ _ p W1 hl hp hN1
  rw [← hT]
  clear hT
  obtain ⟨c30, c31, c32⟩ : W1.cell? ⟨g3, 0, none⟩ = some (.string n.nm) ∧ W1.cell? ⟨g3, 1, none⟩ = some (.slice A2 n.ps.length pc) ∧ W1.cell? ⟨g3, 2, none⟩ = some (.slice K n.ks.length kc) := ⟨hA3.cell 0, hA3.cell 1, hA3.cell 2⟩
  obtain ⟨c50, c51, c52⟩ : W1.cell? ⟨g5, 0, none⟩ = some (.int .i64 kd) ∧ W1.cell? ⟨g5, 1, none⟩ = some (.string cn) ∧ W1.cell? ⟨g5, 2, none⟩ = some (.string cv) := ⟨hA5.cell 0, hA5.cell 1, hA5.cell 2⟩
  have HFIN : Hid (∀ (T : ND × Nat) (w7 : World) (ua : Option Addr) (uc : Nat) (ub : Option Addr) (ud : Nat), NdAt w7 (OrNew (fun k => G k ∧ k < w.heap.size) W1.heap.size) T.1 (.slice ua T.1.ps.length uc) (.slice ub T.1.ks.length ud) → Below W1.heap.size W1 w7 → Arr w7 g6 28 #[.string ⟨#[]⟩, .slice none 0 0, .slice none 0 0] ∧ NdAt (w7.setRow g6 #[.string T.1.nm, .slice ua T.1.ps.length uc, .slice ub T.1.ks.length ud]) (OrNew G w.heap.size) T.1 (.slice ua T.1.ps.length uc) (.slice ub T.1.ks.length ud) ∧ Below w.heap.size w (w7.setRow g6 #[.string T.1.nm, .slice ua T.1.ps.length uc, .slice ub T.1.ks.length ud])) := fun T w7 ua uc ub ud hk hb => by
    have h5 := HG6.out
    have h6 := HL6.out
    have h7 := HS1.out
    exact ⟨HA6.out.below hb HA6.out.lt, (hk.kept (moved_setRow w7 g6 _) (fun k hk e => by rcases hk with hk | hk <;> omega)).mono (fun k hk => hk.imp (fun h => h.1) (fun h => Nat.le_trans h7 h)), below_setRow (HB1.out.trans (hb.mono HB1.out.size)) h5 _⟩
  clear hN hA3 hA5 hA6 hB1 hN1 hpc hkc HA6 HB1 HS1 HL6 hl hp h1 h2
  go_enter Tryz.func7, Tryz.ntmps7
  go_upto_region 1 with fail
  change Code.wp _ _ _ _ (((w.alloc (.cells #[.string n.nm, .slice A2 n.ps.length pc, .slice K n.ks.length kc] 28)).alloc (.cells #[.int .i64 kd, .string cn, .string cv] 37)).alloc (.cells #[.string ⟨#[]⟩, .slice none 0 0, .slice none 0 0] 28))
  rw [← hW1, ← hg6, ← hg5, ← hg3]
  clear hW1 hg6 hg5 hg3
  by_cases k1 : kd = 1
  · have d1 : (kd == 1) = true := by simpa using k1
    have H := Lib.hid (HC1.out k1)
    clear k1
    go_wp2_with fail
    refine (H.out).mono ?_
    rintro e w3 ⟨u2, u3, rfl, hk, hb⟩
    obtain ⟨ua, ub, uc, ud, rfl, rfl, _⟩ := nd_shape hk
    obtain ⟨q1, q2, q3⟩ := HFIN.out T w3 ua uc ub ud hk hb
    have Q1 := Lib.hid q1
    have Q2 := Lib.hid q2
    have Q3 := Lib.hid q3
    clear hk hb q1 q2 q3 HFIN HC1 HC2 HC3 HC5 HC9 c30 c31 c32 c50 c51 c52
    go_wp2_with (refine wpList_store_row rfl 28 (.tmp 6) (.tmp 19) rfl g6 #[.string T.1.nm, .slice ua T.1.ps.length uc, .slice ub T.1.ks.length ud] rfl rfl _ _ Q1.out (infoNd _ _ _) rfl (nd_one _ _ _ _ _ _ _) ?_)
    exact bodyPost_ret (results_rowN rfl _ _ g6 _ #[.string T.1.nm, .slice ua T.1.ps.length uc, .slice ub T.1.ks.length ud] _ _ rfl (Q1.out.row _) Tryz.underlying28 rfl (infoNd _ _ _)) rfl ⟨_, _, rfl, Q2.out, Q3.out⟩
  have d1 : (kd == 1) = false := by simpa using k1
  by_cases k2 : kd = 2
  · have d2 : (kd == 2) = true := by simpa using k2
    have H := Lib.hid (HC2.out k2)
    clear k1 k2
    go_wp2_with fail
    refine (H.out).mono ?_
    rintro e w3 ⟨u2, u3, rfl, hk, hb⟩
    obtain ⟨ua, ub, uc, ud, rfl, rfl, _⟩ := nd_shape hk
    obtain ⟨q1, q2, q3⟩ := HFIN.out T w3 ua uc ub ud hk hb
    have Q1 := Lib.hid q1
    have Q2 := Lib.hid q2
    have Q3 := Lib.hid q3
    clear hk hb q1 q2 q3 HFIN HC1 HC2 HC3 HC5 HC9 c30 c31 c32 c50 c51 c52
    go_wp2_with (refine wpList_store_row rfl 28 (.tmp 6) (.tmp 28) rfl g6 #[.string T.1.nm, .slice ua T.1.ps.length uc, .slice ub T.1.ks.length ud] rfl rfl _ _ Q1.out (infoNd _ _ _) rfl (nd_one _ _ _ _ _ _ _) ?_)
    exact bodyPost_ret (results_rowN rfl _ _ g6 _ #[.string T.1.nm, .slice ua T.1.ps.length uc, .slice ub T.1.ks.length ud] _ _ rfl (Q1.out.row _) Tryz.underlying28 rfl (infoNd _ _ _)) rfl ⟨_, _, rfl, Q2.out, Q3.out⟩
  have d2 : (kd == 2) = false := by simpa using k2
  by_cases k3 : kd = 3
  · have d3 : (kd == 3) = true := by simpa using k3
    have H := Lib.hid (HC3.out k3)
    clear k1 k2 k3
    go_wp2_with fail
    refine (H.out).mono ?_
    rintro e w3 ⟨u2, u3, rfl, hk, hb⟩
    obtain ⟨ua, ub, uc, ud, rfl, rfl, _⟩ := nd_shape hk
    obtain ⟨q1, q2, q3⟩ := HFIN.out T w3 ua uc ub ud hk hb
    have Q1 := Lib.hid q1
    have Q2 := Lib.hid q2
    have Q3 := Lib.hid q3
    clear hk hb q1 q2 q3 HFIN HC1 HC2 HC3 HC5 HC9 c30 c31 c32 c50 c51 c52
    go_wp2_with (refine wpList_store_row rfl 28 (.tmp 6) (.tmp 37) rfl g6 #[.string T.1.nm, .slice ua T.1.ps.length uc, .slice ub T.1.ks.length ud] rfl rfl _ _ Q1.out (infoNd _ _ _) rfl (nd_one _ _ _ _ _ _ _) ?_)
    exact bodyPost_ret (results_rowN rfl _ _ g6 _ #[.string T.1.nm, .slice ua T.1.ps.length uc, .slice ub T.1.ks.length ud] _ _ rfl (Q1.out.row _) Tryz.underlying28 rfl (infoNd _ _ _)) rfl ⟨_, _, rfl, Q2.out, Q3.out⟩
  have d3 : (kd == 3) = false := by simpa using k3
  by_cases k5 : kd = 5
  · have d5 : (kd == 5) = true := by simpa using k5
    have H := Lib.hid (HC5.out k5)
    clear k1 k2 k3 k5
    go_wp2_with fail
    refine (H.out).mono ?_
    rintro e w3 ⟨u2, u3, rfl, hk, hb⟩
    obtain ⟨ua, ub, uc, ud, rfl, rfl, _⟩ := nd_shape hk
    obtain ⟨q1, q2, q3⟩ := HFIN.out T w3 ua uc ub ud hk hb
    have Q1 := Lib.hid q1
    have Q2 := Lib.hid q2
    have Q3 := Lib.hid q3
    clear hk hb q1 q2 q3 HFIN HC1 HC2 HC3 HC5 HC9 c30 c31 c32 c50 c51 c52
    go_wp2_with (refine wpList_store_row rfl 28 (.tmp 6) (.tmp 44) rfl g6 #[.string T.1.nm, .slice ua T.1.ps.length uc, .slice ub T.1.ks.length ud] rfl rfl _ _ Q1.out (infoNd _ _ _) rfl (nd_one _ _ _ _ _ _ _) ?_)
    exact bodyPost_ret (results_rowN rfl _ _ g6 _ #[.string T.1.nm, .slice ua T.1.ps.length uc, .slice ub T.1.ks.length ud] _ _ rfl (Q1.out.row _) Tryz.underlying28 rfl (infoNd _ _ _)) rfl ⟨_, _, rfl, Q2.out, Q3.out⟩
  have d5 : (kd == 5) = false := by simpa using k5
  have H := Lib.hid (HC9.out k1 k2 k3 k5)
  clear k1 k2 k3 k5
  go_wp2_with fail
  refine (H.out).mono ?_
  rintro e w3 ⟨u2, u3, rfl, hk, hb⟩
  obtain ⟨ua, ub, uc, ud, rfl, rfl, _⟩ := nd_shape hk
  obtain ⟨q1, q2, q3⟩ := HFIN.out T w3 ua uc ub ud hk hb
  have Q1 := Lib.hid q1
  have Q2 := Lib.hid q2
  have Q3 := Lib.hid q3
  clear hk hb q1 q2 q3 HFIN HC1 HC2 HC3 HC5 HC9 c30 c31 c32 c50 c51 c52
  go_wp2_with (refine wpList_store_row rfl 28 (.tmp 6) (.tmp 49) rfl g6 #[.string T.1.nm, .slice ua T.1.ps.length uc, .slice ub T.1.ks.length ud] rfl rfl _ _ Q1.out (infoNd _ _ _) rfl (nd_one _ _ _ _ _ _ _) ?_)
  exact bodyPost_ret (results_rowN rfl _ _ g6 _ #[.string T.1.nm, .slice ua T.1.ps.length uc, .slice ub T.1.ks.length ud] _ _ rfl (Q1.out.row _) Tryz.underlying28 rfl (infoNd _ _ _)) rfl ⟨_, _, rfl, Q2.out, Q3.out⟩
end Go.Proofs.YtfcclppgjfkfoaaGreatDoor

/- The document's at, Text and Number of layer 16. Conditions: a path of at most 2^30 bytes; a tree that is read; a value of at most 2^40 bytes. -/
namespace Go.Proofs.YtfcclppgjfkfoaaGreatDoor
open Go.RowKit

/-- The value of a property of the node of a path. -/
def atR (n : ND) (p : List UInt8) (nm : ByteArray) : Option ByteArray := match findR n p with
  | none => none
  | some k => valR k nm
def textR (n : ND) (p : List UInt8) (nm : ByteArray) : ByteArray × Bool := match atR n p nm with
  | none => (⟨#[]⟩, false)
  | some v => asT1 v.data.toList
def numR (n : ND) (p : List UInt8) (nm : ByteArray) : Int × Bool := match atR n p nm with
  | none => (0, false)
  | some v => (asN1 v.data.toList, decide (v.size = 4))
end Go.Proofs.YtfcclppgjfkfoaaGreatDoor

/- What package path must do (PathMust), and the law's awake of layer 16 over it. Conditions: paths and names of at most 10^6 bytes; trees of at most 12 levels and few parts. -/
namespace Go.Proofs.YtfcclppgjfkfoaaGreatDoor
open Go.RowKit

/-- The tree that awake() takes. -/
def k16 : ND := .mk ⟨#[97]⟩ [⟨⟨#[120]⟩, ⟨#[116, 0]⟩⟩, ⟨⟨#[121]⟩, ⟨#[0, 0, 0, 7]⟩⟩] []
def n16 : ND := .mk ⟨#[]⟩ [] [k16]
theorem low16 : LowR n16 = true := by decide +kernel
theorem parts16 : partsR [47, 97, 47, 98] = ([[97], [98]], true) := by decide +kernel
theorem parts16a : partsR [47, 97] = ([[97]], true) := by decide +kernel
theorem parts16b : partsR [47, 98] = ([[98]], true) := by decide +kernel
theorem find16 : findR n16 [47, 97] = some k16 := by
  unfold findR
  rw [parts16a]; rfl
theorem find16b : findR n16 [47, 98] = none := by
  unfold findR
  rw [parts16b]; rfl
theorem text16 : textR n16 [47, 97] ⟨#[120]⟩ = (⟨#[116]⟩, true) := by
  have h0 : atR n16 [47, 97] ⟨#[120]⟩ = some ⟨#[116, 0]⟩ := by
    unfold atR
    rw [find16]; rfl
  have h1 : okV [116, 0] = true := by decide +kernel
  have h2 : asT [116, 0] = [[116]] := by decide +kernel
  unfold textR
  rw [h0]
  show asT1 [116, 0] = _
  unfold asT1
  rw [h1, h2]; rfl
theorem num16 : numR n16 [47, 97] ⟨#[121]⟩ = (7, true) := by
  have h0 : atR n16 [47, 97] ⟨#[121]⟩ = some ⟨#[0, 0, 0, 7]⟩ := by
    unfold atR
    rw [find16]; rfl
  unfold numR
  rw [h0]; rfl
theorem join16 : joinB [⟨#[97]⟩, ⟨#[98]⟩] = [47, 97, 47, 98] := by rfl

end Go.Proofs.YtfcclppgjfkfoaaGreatDoor

/- The awake() of layer 17's statements. Conditions: the contracts of package edit. -/
namespace Go.Proofs.YtfcclppgjfkfoaaGreatDoor
open Go.RowKit

/-- The trees that awake() makes. -/
def b17 (l : List PR) : ND := .mk ⟨#[98]⟩ l []
def n17 : ND := .mk ⟨#[]⟩ [] [.mk ⟨#[97]⟩ [] [b17 []]]
def m17 : ND := .mk ⟨#[]⟩ [] [.mk ⟨#[97]⟩ [] [b17 [⟨⟨#[120]⟩, ⟨#[49]⟩⟩]]]
theorem low17_0 : LowR nd0 = true := by decide +kernel
theorem low17_n : LowR n17 = true := by decide +kernel
theorem low17_m : LowR m17 = true := by decide +kernel
theorem make17 : makeR17 nd0 [47, 97, 47, 98] = (n17, 0) := by
  unfold makeR17
  rw [parts16]
  kernel_rfl
theorem set17 : doR17 n17 [47, 97, 47, 98] ⟨1, ⟨#[120]⟩, ⟨#[49]⟩⟩ = (m17, 0) := by
  unfold doR17
  rw [parts16]
  kernel_rfl
theorem find17 : findR m17 [47, 97, 47, 98] = some (b17 [⟨⟨#[120]⟩, ⟨#[49]⟩⟩]) := by
  unfold findR
  rw [parts16]
  kernel_rfl
theorem drop17 : dropR17 m17 [47, 97] = (nd0, 0) := by
  unfold dropR17
  rw [parts16a]
  kernel_rfl
theorem add17 : doR17 n17 [47, 97] ⟨3, ⟨#[98]⟩, ⟨#[]⟩⟩ = (nd0, 12) := by
  unfold doR17
  rw [parts16a]
  kernel_rfl

end Go.Proofs.YtfcclppgjfkfoaaGreatDoor

/- The header of a tree in plain words: when it is valid, its bytes, how it is read, a part of bytes. No condition: nothing of the program stands in it. -/
namespace Go.Proofs.YtfcclppgjfkfoaaGreatDoor
open Go.RowKit

/-- A header: how many bytes there are, where the structure, the texts and the reserved spans begin, the processor, the bytes of the texts and of the structure. -/
structure HD where
  tot : Int
  stc : Int
  sgs : Int
  rsv : Int
  boo : Int
  txs : Int
  siz : Int
  deriving DecidableEq
def hd0 : HD := ⟨0, 0, 0, 0, 0, 0, 0⟩
/-- Its cells. -/
def hdC (h : HD) : Array Value := #[.int .i64 h.tot, .int .i64 h.stc, .int .i64 h.sgs, .int .i64 h.rsv, .int .i64 h.boo, .int .i64 h.txs, .int .i64 h.siz]
/-- Valid, but for being too big. -/
def mayH (h : HD) : Bool := decide (40 ≤ h.tot ∧ 40 ≤ h.stc ∧ 40 ≤ h.sgs ∧ 40 ≤ h.rsv ∧ h.stc ≤ h.tot ∧ h.sgs ≤ h.tot ∧ h.rsv ≤ h.tot ∧ h.stc % 4 = 0 ∧ h.rsv % 8 = 0 ∧ 0 ≤ h.siz ∧ h.siz ≤ h.tot - h.stc ∧ 0 ≤ h.txs ∧ h.txs ≤ h.tot - h.sgs ∧ 0 ≤ h.boo ∧ h.boo ≤ 4294967295)
/-- Its ten numbers. -/
def listH (h : HD) : List Int := [3490578157, h.tot, h.stc, h.sgs, h.rsv, 17, 16, h.boo, h.txs, h.siz]
/-- Put. -/
def putH (h : HD) : List UInt8 × Nat := if mayH h = true ∧ h.tot ≤ 16384 then (bigs (listH h) 10, 0) else ([], 1)
/-- The number at a place. -/
def numAt (s : List UInt8) (k : Nat) : Int := frombig (s.drop (4 * k))
def hdOf (s : List UInt8) : HD := ⟨numAt s 1, numAt s 2, numAt s 3, numAt s 4, numAt s 7, numAt s 8, numAt s 9⟩
/-- Read. -/
def readH (s : List UInt8) : HD × Nat :=
  if s.length < 40 then (hd0, 14)
  else if numAt s 0 ≠ 3490578157 ∨ numAt s 5 < 17 ∨ 17 < numAt s 6 then (hd0, 6)
  else if 16384 < numAt s 1 then (hd0, 7)
  else if mayH (hdOf s) = false then (hd0, 6)
  else if (s.length : Int) < numAt s 1 then (hd0, 14)
  else (hdOf s, 0)
/-- Part. -/
def partE (n : Nat) (a b : Int) : Nat := if a < 0 ∨ b < 0 ∨ (n : Int) < a ∨ (n : Int) - a < b then 2 else 0

/-- Part's bytes and error. -/
def partR (s : ByteArray) (a b : Int) : ByteArray × Nat := if a < 0 ∨ b < 0 ∨ (s.size : Int) < a ∨ (s.size : Int) - a < b then (⟨#[]⟩, 2) else (s.extract a.toNat (a + b).toNat, 0)
theorem partR_err (s : ByteArray) (a b : Int) : (partR s a b).2 = partE s.size a b := by unfold partR partE; split <;> rfl

theorem numsB_take (s : List UInt8) (k : Nat) (hk : k < 10) : (numsB (s.take 40) 10).getD k 0 = numAt s k := by
  have e : (numsB (s.take 40) 10).getD k 0 = frombig ((s.take 40).drop (4 * k)) := by
    simp [numsB, List.getD_eq_getElem?_getD, List.getElem?_range hk]
  rw [e]
  unfold numAt frombig
  have g : ∀ j, j < 4 → ((s.take 40).drop (4 * k)).getD j 0 = (s.drop (4 * k)).getD j 0 := by
    intro j hj
    simp only [List.getD_eq_getElem?_getD, List.getElem?_drop, List.getElem?_take]
    rw [if_pos (by omega)]
  rw [g 0 (by omega), g 1 (by omega), g 2 (by omega), g 3 (by omega)]
theorem numAt_bd (s : List UInt8) (k : Nat) : 0 ≤ numAt s k ∧ numAt s k < 4294967296 := frombig_bd _
/-- What is put has forty bytes. -/
theorem putH_len {h : HD} (he : (putH h).2 = 0) : (putH h).1.length = 40 ∧ mayH h = true ∧ h.tot ≤ 16384 := by
  unfold putH at he ⊢
  split
  · rename_i hg
    exact ⟨bigs_length _ 10 (Nat.le_refl 10), hg.1, hg.2⟩
  · rename_i hg
    rw [if_neg hg] at he
    cases he
theorem mayH_iff {h : HD} : mayH h = true ↔ 40 ≤ h.tot ∧ 40 ≤ h.stc ∧ 40 ≤ h.sgs ∧ 40 ≤ h.rsv ∧ h.stc ≤ h.tot ∧ h.sgs ≤ h.tot ∧ h.rsv ≤ h.tot ∧ h.stc % 4 = 0 ∧ h.rsv % 8 = 0 ∧ 0 ≤ h.siz ∧ h.siz ≤ h.tot - h.stc ∧ 0 ≤ h.txs ∧ h.txs ≤ h.tot - h.sgs ∧ 0 ≤ h.boo ∧ h.boo ≤ 4294967295 := decide_eq_true_iff
theorem numAt_bigs (l : List Int) (r : List UInt8) : ∀ (k : Nat), k < l.length → numAt (bigs l l.length ++ r) k = l.getD k 0 % 4294967296 := by
  induction l with
  | nil => intro k hk; simp at hk
  | cons x l ih =>
    intro k hk
    have e : bigs (x :: l) (x :: l).length ++ r = big x ++ (bigs l l.length ++ r) := by
      simp [bigs]
    rw [e]
    cases k with
    | zero => exact frombig_big x _
    | succ k =>
      have h := ih k (by simpa using hk)
      unfold numAt at h ⊢
      have d : (big x ++ (bigs l l.length ++ r)).drop (4 * (k + 1)) = (bigs l l.length ++ r).drop (4 * k) := by
        rw [List.drop_append, big_length]
        have : 4 * (k + 1) - 4 = 4 * k := by omega
        rw [this, List.drop_eq_nil_of_le (by rw [big_length]; omega)]
        rfl
      rw [d, h]
      simp
/-- What is put, with enough bytes behind it, is read back. -/
theorem read_putH {h : HD} {r : List UInt8} (he : (putH h).2 = 0) (hr : h.tot ≤ (((putH h).1 ++ r).length : Int)) : readH ((putH h).1 ++ r) = (h, 0) := by
  obtain ⟨h1, h2, h3⟩ := putH_len he
  have hp : (putH h).1 = bigs (listH h) 10 := by unfold putH; rw [if_pos ⟨h2, h3⟩]
  have hl : ((putH h).1 ++ r).length = 40 + r.length := by rw [List.length_append, h1]
  rw [hl] at hr
  have hm := mayH_iff.1 h2
  have hn : ∀ k, k < 10 → numAt ((putH h).1 ++ r) k = (listH h).getD k 0 % 4294967296 := by
    intro k hk
    rw [hp]
    exact numAt_bigs (listH h) r k hk
  have n0 : numAt ((putH h).1 ++ r) 0 = 3490578157 := by rw [hn 0 (by omega)]; rfl
  have n1 : numAt ((putH h).1 ++ r) 1 = h.tot := by rw [hn 1 (by omega)]; show h.tot % _ = _; omega
  have n2 : numAt ((putH h).1 ++ r) 2 = h.stc := by rw [hn 2 (by omega)]; show h.stc % _ = _; omega
  have n3 : numAt ((putH h).1 ++ r) 3 = h.sgs := by rw [hn 3 (by omega)]; show h.sgs % _ = _; omega
  have n4 : numAt ((putH h).1 ++ r) 4 = h.rsv := by rw [hn 4 (by omega)]; show h.rsv % _ = _; omega
  have n5 : numAt ((putH h).1 ++ r) 5 = 17 := by rw [hn 5 (by omega)]; rfl
  have n6 : numAt ((putH h).1 ++ r) 6 = 16 := by rw [hn 6 (by omega)]; rfl
  have n7 : numAt ((putH h).1 ++ r) 7 = h.boo := by rw [hn 7 (by omega)]; show h.boo % _ = _; omega
  have n8 : numAt ((putH h).1 ++ r) 8 = h.txs := by rw [hn 8 (by omega)]; show h.txs % _ = _; omega
  have n9 : numAt ((putH h).1 ++ r) 9 = h.siz := by rw [hn 9 (by omega)]; show h.siz % _ = _; omega
  have ho : hdOf ((putH h).1 ++ r) = h := by unfold hdOf; rw [n1, n2, n3, n4, n7, n8, n9]
  unfold readH
  rw [hl, ho, n0, n1, n5, n6, h2, if_neg (by omega), if_neg (by omega), if_neg (by omega), if_neg (by simp), if_neg (by omega)]
/-- All that a header which was read tells is there. -/
theorem readH_ok {s : List UInt8} {h : HD} (hr : readH s = (h, 0)) : mayH h = true ∧ h.tot ≤ s.length ∧ h.tot ≤ 16384 ∧ 40 ≤ s.length ∧ h = hdOf s := by
  unfold readH at hr
  split at hr
  · cases hr
  split at hr
  · cases hr
  split at hr
  · cases hr
  split at hr
  · cases hr
  split at hr
  · cases hr
  · rename_i g1 g2 g3 g4 g5
    injection hr with e _
    subst e
    exact ⟨by simpa using g4, by show numAt s 1 ≤ _; omega, by show numAt s 1 ≤ _; omega, by omega, rfl⟩
theorem readH_bad {s : List UInt8} {h : HD} {e : Nat} (hr : readH s = (h, e)) (he : e ≠ 0) : h = hd0 := by
  unfold readH at hr
  repeat' split at hr
  all_goals first | (injection hr with a b; exact a.symm) | (injection hr with a b; exact absurd b.symm he)
/-- Both parts that a header tells are there. -/
theorem part_there {s : List UInt8} {h : HD} (hr : readH s = (h, 0)) : partE s.length h.stc h.siz = 0 ∧ partE s.length h.sgs h.txs = 0 ∧ 40 ≤ h.rsv ∧ h.rsv ≤ s.length ∧ h.tot ≤ s.length := by
  obtain ⟨h1, h2, _, _, _⟩ := readH_ok hr
  have hm := mayH_iff.1 h1
  unfold partE
  rw [if_neg (by omega), if_neg (by omega)]
  exact ⟨rfl, rfl, by omega, by omega, h2⟩
end Go.Proofs.YtfcclppgjfkfoaaGreatDoor
