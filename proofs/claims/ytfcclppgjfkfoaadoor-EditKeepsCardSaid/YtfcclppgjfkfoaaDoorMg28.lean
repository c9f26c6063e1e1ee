/- What package edit must do (EditMust); the law's do, wants and few of layer 17 over it. Conditions: trees of at most 12 levels and few parts; paths, names and values of at most 10^6 bytes. -/
import Derived.Test.YtfcclppgjfkfoaaDoorMg27
namespace Go.Proofs.YtfcclppgjfkfoaaDoor
open Go.RowKit

/-- A tree that was changed, or why it was not: what a call gives. -/
def Ed (G : Nat → Prop) (T : ND × Nat) (w : World) (e : Ending) (w' : World) : Prop :=
  ∃ u2 u3, e = .returned (.tuple #[.agg #[.string T.1.nm, u2, u3], .int .i64 (T.2 : Nat)]) ∧ NdAt w' (OrNew G w.heap.size) T.1 u2 u3 ∧ Below w.heap.size w w'
/-- The contracts of package edit. -/
structure EditMust : Prop where
  set : ∀ (G : Nat → Prop) (n : ND) (y z : Value) (p nm vl : ByteArray) (w : World), SzT n → p.size ≤ 1000000 → nm.size ≤ 1000000 → vl.size ≤ 1000000 → NdAt w G n y z → Calls Tryd.prog 14 #[.agg #[.string n.nm, y, z], .string p, .string nm, .string vl] w (Ed G (doR17 n p.data.toList ⟨1, nm, vl⟩) w)
  unset : ∀ (G : Nat → Prop) (n : ND) (y z : Value) (p nm : ByteArray) (w : World), SzT n → p.size ≤ 1000000 → nm.size ≤ 1000000 → NdAt w G n y z → Calls Tryd.prog 16 #[.agg #[.string n.nm, y, z], .string p, .string nm] w (Ed G (doR17 n p.data.toList ⟨2, nm, ⟨#[]⟩⟩) w)
  add : ∀ (G : Nat → Prop) (n : ND) (y z : Value) (p nm : ByteArray) (w : World), SzT n → p.size ≤ 1000000 → nm.size ≤ 1000000 → NdAt w G n y z → Calls Tryd.prog 17 #[.agg #[.string n.nm, y, z], .string p, .string nm] w (Ed G (doR17 n p.data.toList ⟨3, nm, ⟨#[]⟩⟩) w)
  drop : ∀ (G : Nat → Prop) (n : ND) (y z : Value) (p : ByteArray) (w : World), SzT n → p.size ≤ 1000000 → NdAt w G n y z → Calls Tryd.prog 18 #[.agg #[.string n.nm, y, z], .string p] w (Ed G (dropR17 n p.data.toList) w)
  make : ∀ (G : Nat → Prop) (n : ND) (y z : Value) (p : ByteArray) (w : World), SzT n → p.size ≤ 1000000 → NdAt w G n y z → Calls Tryd.prog 21 #[.agg #[.string n.nm, y, z], .string p] w (Ed G (makeR17 n p.data.toList) w)

theorem props_vl {k : Int} (hk : k ≠ 1) (nm v v' : ByteArray) : k = 2 → ∀ l : List PR, propsR ⟨k, nm, v⟩ l = propsR ⟨k, nm, v'⟩ l
  | h2, [] => by unfold propsR; rw [if_neg hk, if_neg hk]
  | h2, x :: r => by
    unfold propsR
    rw [props_vl hk nm v v' h2 r]
    simp only [if_pos h2]
/-- What is set alone looks at the value. -/
theorem here_vl {k : Int} (hk : k ≠ 1) (nm v v' : ByteArray) (n : ND) : hereR n ⟨k, nm, v⟩ = hereR n ⟨k, nm, v'⟩ := by
  unfold hereR
  rw [if_neg hk, if_neg hk]
  by_cases h2 : k = 2
  · simp only [if_pos h2]
    rw [props_vl hk nm v v' h2]
  · simp only [if_neg h2]
theorem down_vl {k : Int} (hk : k ≠ 1) (nm v v' : ByteArray) : ∀ (l : List ByteArray) (n : ND), downR n l ⟨k, nm, v⟩ = downR n l ⟨k, nm, v'⟩
  | [], n => here_vl hk nm v v' n
  | x :: l, n => by
    rw [downR, downR]
    cases kidR n x with
    | none => rfl
    | some q => simp only [down_vl hk nm v v' l q]
theorem do_vl {k : Int} (hk : k ≠ 1) (nm v v' : ByteArray) (n : ND) (p : List UInt8) : doR17 n p ⟨k, nm, v⟩ = doR17 n p ⟨k, nm, v'⟩ := by
  unfold doR17
  rw [down_vl hk nm v v']
/-- What the law does: a change, or Drop (5), or Make. -/
def editR (n : ND) (p : List UInt8) (c : CH) : ND × Nat :=
  if c.kd = 1 ∨ c.kd = 2 ∨ c.kd = 3 then doR17 n p c else if c.kd = 5 then dropR17 n p else makeR17 n p

theorem few_any17 (c : CH) (w : World) (h1 : c.nm.size ≤ maxLen) (h2 : c.vl.size ≤ maxLen) :
    Calls Tryd.prog 6 #[.agg #[.int .i64 c.kd, .string c.nm, .string c.vl]] w fun e w' => e = .returned (.bool (decide (c.nm.size ≤ 100) && decide (c.vl.size ≤ 300))) ∧ Below w.heap.size w w' := by
  obtain ⟨kd, cn, cv⟩ := c
  have HB : Hid (Below w.heap.size w (w.alloc (.cells #[.int .i64 kd, .string cn, .string cv] 27))) := (Below.refl _ _).alloc (Nat.le_refl _) _
  simp only
  cases d1 : decide (cn.size ≤ 100) with
  | false =>
    have d1' : decide ((cn.size : Int) ≤ 100) = false := decide_eq_false (by have := of_decide_eq_false d1; omega)
    go_enter Tryd.func6, Tryd.ntmps6
    go_wp2
    go_ret
    exact ⟨rfl, HB.out⟩
  | true =>
    have d1' : decide ((cn.size : Int) ≤ 100) = true := decide_eq_true (by have := of_decide_eq_true d1; omega)
    cases d2 : decide (cv.size ≤ 300) with
    | false =>
      have d2' : decide ((cv.size : Int) ≤ 300) = false := decide_eq_false (by have := of_decide_eq_false d2; omega)
      go_enter Tryd.func6, Tryd.ntmps6
      go_wp2
      go_ret
      exact ⟨rfl, HB.out⟩
    | true =>
      have d2' : decide ((cv.size : Int) ≤ 300) = true := decide_eq_true (by have := of_decide_eq_true d2; omega)
      go_enter Tryd.func6, Tryd.ntmps6
      go_wp2
      go_ret
      exact ⟨rfl, HB.out⟩

set_option maxHeartbeats 1600000 in
set_option maxRecDepth 100000 in
theorem do_any17 (M : EditMust) (G : Nat → Prop) (n : ND) (y z : Value) (p : ByteArray) (c : CH) (w : World) (hl : LowR n = true) (hp : p.size ≤ 1000000) (h1 : c.nm.size ≤ 1000000) (h2 : c.vl.size ≤ 1000000) (hN : NdAt w G n y z) :
    Calls Tryd.prog 9 #[.agg #[.string n.nm, y, z], .string p, .agg #[.int .i64 c.kd, .string c.nm, .string c.vl]] w (Ed G (editR n p.data.toList c) w) := by
  obtain ⟨A2, K, pc, kc, rfl, rfl, hpc, hpm, hkc, hkm⟩ := nd_shape hN
  obtain ⟨kd, cn, cv⟩ := c
  simp only at h1 h2
  obtain ⟨W1, hW1⟩ : ∃ W1, W1 = ((w.alloc (.cells #[.string n.nm, .slice A2 n.ps.length pc, .slice K n.ks.length kc] 25)).alloc (.cells #[.int .i64 kd, .string cn, .string cv] 27)).alloc (.cells #[.string ⟨#[]⟩, .slice none 0 0, .slice none 0 0] 25) := ⟨_, rfl⟩
  obtain ⟨g3, hg3⟩ : ∃ g3, g3 = w.heap.size := ⟨_, rfl⟩
  obtain ⟨g5, hg5⟩ : ∃ g5, g5 = w.heap.size + 1 := ⟨_, rfl⟩
  obtain ⟨g6, hg6⟩ : ∃ g6, g6 = w.heap.size + 1 + 1 := ⟨_, rfl⟩
  have hB1 : Below w.heap.size w W1 := by rw [hW1]; exact (((Below.refl _ _).alloc (Nat.le_refl _) _).alloc (by rw [sz_alloc]; omega) _).alloc (by rw [sz_alloc, sz_alloc]; omega) _
  have hA3 : Arr W1 g3 25 #[.string n.nm, .slice A2 n.ps.length pc, .slice K n.ks.length kc] := by rw [hW1, hg3]; exact ((Arr.new w _ _).alloc _).alloc _
  have hA5 : Arr W1 g5 27 #[.int .i64 kd, .string cn, .string cv] := by rw [hW1, hg5]; exact (Arr.new1 w _ _ _).alloc _
  have hA6 : Arr W1 g6 25 #[.string ⟨#[]⟩, .slice none 0 0, .slice none 0 0] := by rw [hW1, hg6]; have h := Arr.new ((w.alloc (.cells #[.string n.nm, .slice A2 n.ps.length pc, .slice K n.ks.length kc] 25)).alloc (.cells #[.int .i64 kd, .string cn, .string cv] 27)) 25 #[.string ⟨#[]⟩, .slice none 0 0, .slice none 0 0]; rw [sz_alloc, sz_alloc] at h; exact h
  have HG6 : Hid (w.heap.size ≤ g6) := by unfold Hid; omega
  have HL6 := Lib.hid hA6.lt
  have HS1 := Lib.hid hB1.size
  have hN1 := nd_below (nd_and hN) hB1
  have HB1 := Lib.hid hB1
  have HA6 := Lib.hid hA6
  obtain ⟨T, hT⟩ : ∃ T, T = editR n p.data.toList ⟨kd, cn, cv⟩ := ⟨_, rfl⟩
  have HC1 : Hid (kd = 1 → Calls Tryd.prog 14 #[.agg #[.string n.nm, .slice A2 n.ps.length pc, .slice K n.ks.length kc], .string p, .string cn, .string cv] W1 (Ed (fun k => G k ∧ k < w.heap.size) T W1)) := fun h => by
    subst h
    have e : editR n p.data.toList ⟨1, cn, cv⟩ = doR17 n p.data.toList ⟨1, cn, cv⟩ := if_pos (.inl rfl)
    rw [hT, e]
    exact M.set _ n _ _ p cn cv W1 (sz_of_low hl) hp h1 h2 hN1
  have HC2 : Hid (kd = 2 → Calls Tryd.prog 16 #[.agg #[.string n.nm, .slice A2 n.ps.length pc, .slice K n.ks.length kc], .string p, .string cn] W1 (Ed (fun k => G k ∧ k < w.heap.size) T W1)) := fun h => by
    subst h
    have e : editR n p.data.toList ⟨2, cn, cv⟩ = doR17 n p.data.toList ⟨2, cn, cv⟩ := if_pos (.inr (.inl rfl))
    rw [hT, e, do_vl (by decide) cn cv ⟨#[]⟩]
    exact M.unset _ n _ _ p cn W1 (sz_of_low hl) hp h1 hN1
  have HC3 : Hid (kd = 3 → Calls Tryd.prog 17 #[.agg #[.string n.nm, .slice A2 n.ps.length pc, .slice K n.ks.length kc], .string p, .string cn] W1 (Ed (fun k => G k ∧ k < w.heap.size) T W1)) := fun h => by
    subst h
    have e : editR n p.data.toList ⟨3, cn, cv⟩ = doR17 n p.data.toList ⟨3, cn, cv⟩ := if_pos (.inr (.inr rfl))
    rw [hT, e, do_vl (by decide) cn cv ⟨#[]⟩]
    exact M.add _ n _ _ p cn W1 (sz_of_low hl) hp h1 hN1
  have HC5 : Hid (kd = 5 → Calls Tryd.prog 18 #[.agg #[.string n.nm, .slice A2 n.ps.length pc, .slice K n.ks.length kc], .string p] W1 (Ed (fun k => G k ∧ k < w.heap.size) T W1)) := fun h => by
    subst h
    have e : editR n p.data.toList ⟨5, cn, cv⟩ = dropR17 n p.data.toList := rfl
    rw [hT, e]
    exact M.drop _ n _ _ p W1 (sz_of_low hl) hp hN1
  have HC9 : Hid (¬ kd = 1 → ¬ kd = 2 → ¬ kd = 3 → ¬ kd = 5 → Calls Tryd.prog 21 #[.agg #[.string n.nm, .slice A2 n.ps.length pc, .slice K n.ks.length kc], .string p] W1 (Ed (fun k => G k ∧ k < w.heap.size) T W1)) := fun a b c d => by
    have e : editR n p.data.toList ⟨kd, cn, cv⟩ = makeR17 n p.data.toList := (if_neg (fun h => h.elim a fun h => h.elim b c)).trans (if_neg d)
    rw [hT, e]
    exact M.make _ n _ _ p W1 (sz_of_low hl) hp hN1
  rw [← hT]
  clear hT
  obtain ⟨c30, c31, c32⟩ : W1.cell? ⟨g3, 0, none⟩ = some (.string n.nm) ∧ W1.cell? ⟨g3, 1, none⟩ = some (.slice A2 n.ps.length pc) ∧ W1.cell? ⟨g3, 2, none⟩ = some (.slice K n.ks.length kc) := ⟨hA3.cell 0, hA3.cell 1, hA3.cell 2⟩
  obtain ⟨c50, c51, c52⟩ : W1.cell? ⟨g5, 0, none⟩ = some (.int .i64 kd) ∧ W1.cell? ⟨g5, 1, none⟩ = some (.string cn) ∧ W1.cell? ⟨g5, 2, none⟩ = some (.string cv) := ⟨hA5.cell 0, hA5.cell 1, hA5.cell 2⟩
  have HFIN : Hid (∀ (T : ND × Nat) (w7 : World) (ua : Option Addr) (uc : Nat) (ub : Option Addr) (ud : Nat), NdAt w7 (OrNew (fun k => G k ∧ k < w.heap.size) W1.heap.size) T.1 (.slice ua T.1.ps.length uc) (.slice ub T.1.ks.length ud) → Below W1.heap.size W1 w7 → Arr w7 g6 25 #[.string ⟨#[]⟩, .slice none 0 0, .slice none 0 0] ∧ NdAt (w7.setRow g6 #[.string T.1.nm, .slice ua T.1.ps.length uc, .slice ub T.1.ks.length ud]) (OrNew G w.heap.size) T.1 (.slice ua T.1.ps.length uc) (.slice ub T.1.ks.length ud) ∧ Below w.heap.size w (w7.setRow g6 #[.string T.1.nm, .slice ua T.1.ps.length uc, .slice ub T.1.ks.length ud])) := fun T w7 ua uc ub ud hk hb => by
    have h5 := HG6.out
    have h6 := HL6.out
    have h7 := HS1.out
    exact ⟨HA6.out.below hb HA6.out.lt, (hk.kept (moved_setRow w7 g6 _) (fun k hk e => by rcases hk with hk | hk <;> omega)).mono (fun k hk => hk.imp (fun h => h.1) (fun h => Nat.le_trans h7 h)), below_setRow (HB1.out.trans (hb.mono HB1.out.size)) h5 _⟩
  clear hN hA3 hA5 hA6 hB1 hN1 hpc hkc HA6 HB1 HS1 HL6 hl hp h1 h2
  go_enter Tryd.func9, Tryd.ntmps9
  go_upto_region 1 with fail
  change Code.wp _ _ _ _ (((w.alloc (.cells #[.string n.nm, .slice A2 n.ps.length pc, .slice K n.ks.length kc] 25)).alloc (.cells #[.int .i64 kd, .string cn, .string cv] 27)).alloc (.cells #[.string ⟨#[]⟩, .slice none 0 0, .slice none 0 0] 25))
  rw [← hW1, ← hg6, ← hg5, ← hg3]
  clear hW1 hg6 hg5 hg3
  by_cases k1 : kd = 1
  · have d1 : (kd == 1) = true := by simpa using k1
    have H := Lib.hid (HC1.out k1)
    clear k1
    go_wp2_with fail
    refine (H.out).mono ?_
    rintro e w3 ⟨u2, u3, rfl, hk, hb⟩
    obtain ⟨ua, ub, uc, ud, rfl, rfl, _⟩ := nd_shape hk
    obtain ⟨q1, q2, q3⟩ := HFIN.out T w3 ua uc ub ud hk hb
    have Q1 := Lib.hid q1
    have Q2 := Lib.hid q2
    have Q3 := Lib.hid q3
    clear hk hb q1 q2 q3 HFIN HC1 HC2 HC3 HC5 HC9 c30 c31 c32 c50 c51 c52
    go_wp2_with (refine wpList_store_row rfl 25 (.tmp 6) (.tmp 19) rfl g6 #[.string T.1.nm, .slice ua T.1.ps.length uc, .slice ub T.1.ks.length ud] rfl rfl _ _ Q1.out (infoNd _ _ _) rfl (nd_one _ _ _ _ _ _ _) ?_)
    exact bodyPost_ret (results_rowN rfl _ _ g6 _ #[.string T.1.nm, .slice ua T.1.ps.length uc, .slice ub T.1.ks.length ud] _ _ rfl (Q1.out.row _) Tryd.underlying25 rfl (infoNd _ _ _)) rfl ⟨_, _, rfl, Q2.out, Q3.out⟩
  have d1 : (kd == 1) = false := by simpa using k1
  by_cases k2 : kd = 2
  · have d2 : (kd == 2) = true := by simpa using k2
    have H := Lib.hid (HC2.out k2)
    clear k1 k2
    go_wp2_with fail
    refine (H.out).mono ?_
    rintro e w3 ⟨u2, u3, rfl, hk, hb⟩
    obtain ⟨ua, ub, uc, ud, rfl, rfl, _⟩ := nd_shape hk
    obtain ⟨q1, q2, q3⟩ := HFIN.out T w3 ua uc ub ud hk hb
    have Q1 := Lib.hid q1
    have Q2 := Lib.hid q2
    have Q3 := Lib.hid q3
    clear hk hb q1 q2 q3 HFIN HC1 HC2 HC3 HC5 HC9 c30 c31 c32 c50 c51 c52
    go_wp2_with (refine wpList_store_row rfl 25 (.tmp 6) (.tmp 28) rfl g6 #[.string T.1.nm, .slice ua T.1.ps.length uc, .slice ub T.1.ks.length ud] rfl rfl _ _ Q1.out (infoNd _ _ _) rfl (nd_one _ _ _ _ _ _ _) ?_)
    exact bodyPost_ret (results_rowN rfl _ _ g6 _ #[.string T.1.nm, .slice ua T.1.ps.length uc, .slice ub T.1.ks.length ud] _ _ rfl (Q1.out.row _) Tryd.underlying25 rfl (infoNd _ _ _)) rfl ⟨_, _, rfl, Q2.out, Q3.out⟩
  have d2 : (kd == 2) = false := by simpa using k2
  by_cases k3 : kd = 3
  · have d3 : (kd == 3) = true := by simpa using k3
    have H := Lib.hid (HC3.out k3)
    clear k1 k2 k3
    go_wp2_with fail
    refine (H.out).mono ?_
    rintro e w3 ⟨u2, u3, rfl, hk, hb⟩
    obtain ⟨ua, ub, uc, ud, rfl, rfl, _⟩ := nd_shape hk
    obtain ⟨q1, q2, q3⟩ := HFIN.out T w3 ua uc ub ud hk hb
    have Q1 := Lib.hid q1
    have Q2 := Lib.hid q2
    have Q3 := Lib.hid q3
    clear hk hb q1 q2 q3 HFIN HC1 HC2 HC3 HC5 HC9 c30 c31 c32 c50 c51 c52
    go_wp2_with (refine wpList_store_row rfl 25 (.tmp 6) (.tmp 37) rfl g6 #[.string T.1.nm, .slice ua T.1.ps.length uc, .slice ub T.1.ks.length ud] rfl rfl _ _ Q1.out (infoNd _ _ _) rfl (nd_one _ _ _ _ _ _ _) ?_)
    exact bodyPost_ret (results_rowN rfl _ _ g6 _ #[.string T.1.nm, .slice ua T.1.ps.length uc, .slice ub T.1.ks.length ud] _ _ rfl (Q1.out.row _) Tryd.underlying25 rfl (infoNd _ _ _)) rfl ⟨_, _, rfl, Q2.out, Q3.out⟩
  have d3 : (kd == 3) = false := by simpa using k3
  by_cases k5 : kd = 5
  · have d5 : (kd == 5) = true := by simpa using k5
    have H := Lib.hid (HC5.out k5)
    clear k1 k2 k3 k5
    go_wp2_with fail
    refine (H.out).mono ?_
    rintro e w3 ⟨u2, u3, rfl, hk, hb⟩
    obtain ⟨ua, ub, uc, ud, rfl, rfl, _⟩ := nd_shape hk
    obtain ⟨q1, q2, q3⟩ := HFIN.out T w3 ua uc ub ud hk hb
    have Q1 := Lib.hid q1
    have Q2 := Lib.hid q2
    have Q3 := Lib.hid q3
    clear hk hb q1 q2 q3 HFIN HC1 HC2 HC3 HC5 HC9 c30 c31 c32 c50 c51 c52
    go_wp2_with (refine wpList_store_row rfl 25 (.tmp 6) (.tmp 44) rfl g6 #[.string T.1.nm, .slice ua T.1.ps.length uc, .slice ub T.1.ks.length ud] rfl rfl _ _ Q1.out (infoNd _ _ _) rfl (nd_one _ _ _ _ _ _ _) ?_)
    exact bodyPost_ret (results_rowN rfl _ _ g6 _ #[.string T.1.nm, .slice ua T.1.ps.length uc, .slice ub T.1.ks.length ud] _ _ rfl (Q1.out.row _) Tryd.underlying25 rfl (infoNd _ _ _)) rfl ⟨_, _, rfl, Q2.out, Q3.out⟩
  have d5 : (kd == 5) = false := by simpa using k5
  have H := Lib.hid (HC9.out k1 k2 k3 k5)
  clear k1 k2 k3 k5
  go_wp2_with fail
  refine (H.out).mono ?_
  rintro e w3 ⟨u2, u3, rfl, hk, hb⟩
  obtain ⟨ua, ub, uc, ud, rfl, rfl, _⟩ := nd_shape hk
  obtain ⟨q1, q2, q3⟩ := HFIN.out T w3 ua uc ub ud hk hb
  have Q1 := Lib.hid q1
  have Q2 := Lib.hid q2
  have Q3 := Lib.hid q3
  clear hk hb q1 q2 q3 HFIN HC1 HC2 HC3 HC5 HC9 c30 c31 c32 c50 c51 c52
  go_wp2_with (refine wpList_store_row rfl 25 (.tmp 6) (.tmp 49) rfl g6 #[.string T.1.nm, .slice ua T.1.ps.length uc, .slice ub T.1.ks.length ud] rfl rfl _ _ Q1.out (infoNd _ _ _) rfl (nd_one _ _ _ _ _ _ _) ?_)
  exact bodyPost_ret (results_rowN rfl _ _ g6 _ #[.string T.1.nm, .slice ua T.1.ps.length uc, .slice ub T.1.ks.length ud] _ _ rfl (Q1.out.row _) Tryd.underlying25 rfl (infoNd _ _ _)) rfl ⟨_, _, rfl, Q2.out, Q3.out⟩

set_option maxHeartbeats 1600000 in
set_option maxRecDepth 100000 in
theorem wants_any17 (G : Nat → Prop) (n : ND) (y z : Value) (p : ByteArray) (c : CH) (w : World) (hl : LowR n = true) (hp : p.size ≤ 1000000) (h1 : c.nm.size ≤ 1000000) (h2 : c.vl.size ≤ 1000000) (hN : NdAt w G n y z) :
    Calls Tryd.prog 10 #[.agg #[.string n.nm, y, z], .string p, .agg #[.int .i64 c.kd, .string c.nm, .string c.vl]] w (Ed G (editR n p.data.toList c) w) := by
  obtain ⟨A2, K, pc, kc, rfl, rfl, hpc, hpm, hkc, hkm⟩ := nd_shape hN
  obtain ⟨kd, cn, cv⟩ := c
  simp only at h1 h2
  obtain ⟨W1, hW1⟩ : ∃ W1, W1 = ((w.alloc (.cells #[.string n.nm, .slice A2 n.ps.length pc, .slice K n.ks.length kc] 25)).alloc (.cells #[.int .i64 kd, .string cn, .string cv] 27)).alloc (.cells #[.string ⟨#[]⟩, .slice none 0 0, .slice none 0 0] 25) := ⟨_, rfl⟩
  obtain ⟨g3, hg3⟩ : ∃ g3, g3 = w.heap.size := ⟨_, rfl⟩
  obtain ⟨g5, hg5⟩ : ∃ g5, g5 = w.heap.size + 1 := ⟨_, rfl⟩
  obtain ⟨g6, hg6⟩ : ∃ g6, g6 = w.heap.size + 1 + 1 := ⟨_, rfl⟩
  have hB1 : Below w.heap.size w W1 := by rw [hW1]; exact (((Below.refl _ _).alloc (Nat.le_refl _) _).alloc (by rw [sz_alloc]; omega) _).alloc (by rw [sz_alloc, sz_alloc]; omega) _
  have hA3 : Arr W1 g3 25 #[.string n.nm, .slice A2 n.ps.length pc, .slice K n.ks.length kc] := by rw [hW1, hg3]; exact ((Arr.new w _ _).alloc _).alloc _
  have hA5 : Arr W1 g5 27 #[.int .i64 kd, .string cn, .string cv] := by rw [hW1, hg5]; exact (Arr.new1 w _ _ _).alloc _
  have hA6 : Arr W1 g6 25 #[.string ⟨#[]⟩, .slice none 0 0, .slice none 0 0] := by rw [hW1, hg6]; have h := Arr.new ((w.alloc (.cells #[.string n.nm, .slice A2 n.ps.length pc, .slice K n.ks.length kc] 25)).alloc (.cells #[.int .i64 kd, .string cn, .string cv] 27)) 25 #[.string ⟨#[]⟩, .slice none 0 0, .slice none 0 0]; rw [sz_alloc, sz_alloc] at h; exact h
  have HG6 : Hid (w.heap.size ≤ g6) := by unfold Hid; omega
  have HL6 := Lib.hid hA6.lt
  have HS1 := Lib.hid hB1.size
  have hN1 := nd_below (nd_and hN) hB1
  have HB1 := Lib.hid hB1
  have HA6 := Lib.hid hA6
  have hs := sz_of_low hl
  obtain ⟨T, hT⟩ : ∃ T, T = editR n p.data.toList ⟨kd, cn, cv⟩ := ⟨_, rfl⟩
  have HC1 : Hid (kd = 1 → Calls Tryd.prog 23 #[.agg #[.string n.nm, .slice A2 n.ps.length pc, .slice K n.ks.length kc], .string p, .agg #[.int .i64 kd, .string cn, .string cv]] W1 (Ed (fun k => G k ∧ k < w.heap.size) T W1)) := fun h => by
    subst h
    have e : editR n p.data.toList ⟨1, cn, cv⟩ = doR17 n p.data.toList ⟨1, cn, cv⟩ := if_pos (.inl rfl)
    rw [hT, e]
    exact rDo_any _ n _ _ p ⟨1, cn, cv⟩ W1 hs (by omega) (by show cn.size ≤ _; omega) hN1
  have HC2 : Hid (kd = 2 → Calls Tryd.prog 23 #[.agg #[.string n.nm, .slice A2 n.ps.length pc, .slice K n.ks.length kc], .string p, .agg #[.int .i64 kd, .string cn, .string cv]] W1 (Ed (fun k => G k ∧ k < w.heap.size) T W1)) := fun h => by
    subst h
    have e : editR n p.data.toList ⟨2, cn, cv⟩ = doR17 n p.data.toList ⟨2, cn, cv⟩ := if_pos (.inr (.inl rfl))
    rw [hT, e]
    exact rDo_any _ n _ _ p ⟨2, cn, cv⟩ W1 hs (by omega) (by show cn.size ≤ _; omega) hN1
  have HC3 : Hid (kd = 3 → Calls Tryd.prog 23 #[.agg #[.string n.nm, .slice A2 n.ps.length pc, .slice K n.ks.length kc], .string p, .agg #[.int .i64 kd, .string cn, .string cv]] W1 (Ed (fun k => G k ∧ k < w.heap.size) T W1)) := fun h => by
    subst h
    have e : editR n p.data.toList ⟨3, cn, cv⟩ = doR17 n p.data.toList ⟨3, cn, cv⟩ := if_pos (.inr (.inr rfl))
    rw [hT, e]
    exact rDo_any _ n _ _ p ⟨3, cn, cv⟩ W1 hs (by omega) (by show cn.size ≤ _; omega) hN1
  have HC5 : Hid (kd = 5 → Calls Tryd.prog 24 #[.agg #[.string n.nm, .slice A2 n.ps.length pc, .slice K n.ks.length kc], .string p] W1 (Ed (fun k => G k ∧ k < w.heap.size) T W1)) := fun h => by
    subst h
    have e : editR n p.data.toList ⟨5, cn, cv⟩ = dropR17 n p.data.toList := rfl
    rw [hT, e]
    exact rDrop_any _ n _ _ p W1 hs hp hN1
  have HC9 : Hid (¬ kd = 1 → ¬ kd = 2 → ¬ kd = 3 → ¬ kd = 5 → Calls Tryd.prog 25 #[.agg #[.string n.nm, .slice A2 n.ps.length pc, .slice K n.ks.length kc], .string p] W1 (Ed (fun k => G k ∧ k < w.heap.size) T W1)) := fun a b c d => by
    have e : editR n p.data.toList ⟨kd, cn, cv⟩ = makeR17 n p.data.toList := (if_neg (fun h => h.elim a fun h => h.elim b c)).trans (if_neg d)
    rw [hT, e]
    exact rMake_any _ n _ _ p W1 hs hp hN1
  rw [← hT]
  clear hT hs
  obtain ⟨c30, c31, c32⟩ : W1.cell? ⟨g3, 0, none⟩ = some (.string n.nm) ∧ W1.cell? ⟨g3, 1, none⟩ = some (.slice A2 n.ps.length pc) ∧ W1.cell? ⟨g3, 2, none⟩ = some (.slice K n.ks.length kc) := ⟨hA3.cell 0, hA3.cell 1, hA3.cell 2⟩
  obtain ⟨c50, c51, c52⟩ : W1.cell? ⟨g5, 0, none⟩ = some (.int .i64 kd) ∧ W1.cell? ⟨g5, 1, none⟩ = some (.string cn) ∧ W1.cell? ⟨g5, 2, none⟩ = some (.string cv) := ⟨hA5.cell 0, hA5.cell 1, hA5.cell 2⟩
  have HFIN : Hid (∀ (T : ND × Nat) (w7 : World) (ua : Option Addr) (uc : Nat) (ub : Option Addr) (ud : Nat), NdAt w7 (OrNew (fun k => G k ∧ k < w.heap.size) W1.heap.size) T.1 (.slice ua T.1.ps.length uc) (.slice ub T.1.ks.length ud) → Below W1.heap.size W1 w7 → Arr w7 g6 25 #[.string ⟨#[]⟩, .slice none 0 0, .slice none 0 0] ∧ NdAt (w7.setRow g6 #[.string T.1.nm, .slice ua T.1.ps.length uc, .slice ub T.1.ks.length ud]) (OrNew G w.heap.size) T.1 (.slice ua T.1.ps.length uc) (.slice ub T.1.ks.length ud) ∧ Below w.heap.size w (w7.setRow g6 #[.string T.1.nm, .slice ua T.1.ps.length uc, .slice ub T.1.ks.length ud])) := fun T w7 ua uc ub ud hk hb => by
    have h5 := HG6.out
    have h6 := HL6.out
    have h7 := HS1.out
    exact ⟨HA6.out.below hb HA6.out.lt, (hk.kept (moved_setRow w7 g6 _) (fun k hk e => by rcases hk with hk | hk <;> omega)).mono (fun k hk => hk.imp (fun h => h.1) (fun h => Nat.le_trans h7 h)), below_setRow (HB1.out.trans (hb.mono HB1.out.size)) h5 _⟩
  clear hN hA3 hA5 hA6 hB1 hN1 hpc hkc HA6 HB1 HS1 HL6 hl hp h1 h2
  go_enter Tryd.func10, Tryd.ntmps10
  go_upto_region 1 with fail
  change Code.wp _ _ _ _ (((w.alloc (.cells #[.string n.nm, .slice A2 n.ps.length pc, .slice K n.ks.length kc] 25)).alloc (.cells #[.int .i64 kd, .string cn, .string cv] 27)).alloc (.cells #[.string ⟨#[]⟩, .slice none 0 0, .slice none 0 0] 25))
  rw [← hW1, ← hg6, ← hg5, ← hg3]
  clear hW1 hg6 hg5 hg3
  by_cases k1 : kd = 1
  · have d1 : (kd == 1) = true := by simpa using k1
    have H := Lib.hid (HC1.out k1)
    clear k1
    go_wp2_with fail
    refine (H.out).mono ?_
    rintro e w3 ⟨u2, u3, rfl, hk, hb⟩
    obtain ⟨ua, ub, uc, ud, rfl, rfl, _⟩ := nd_shape hk
    obtain ⟨q1, q2, q3⟩ := HFIN.out T w3 ua uc ub ud hk hb
    have Q1 := Lib.hid q1
    have Q2 := Lib.hid q2
    have Q3 := Lib.hid q3
    clear hk hb q1 q2 q3 HFIN HC1 HC2 HC3 HC5 HC9 c30 c31 c32 c50 c51 c52
    go_wp2_with (refine wpList_store_row rfl 25 (.tmp 6) (.tmp 18) rfl g6 #[.string T.1.nm, .slice ua T.1.ps.length uc, .slice ub T.1.ks.length ud] rfl rfl _ _ Q1.out (infoNd _ _ _) rfl (nd_one _ _ _ _ _ _ _) ?_)
    exact bodyPost_ret (results_rowN rfl _ _ g6 _ #[.string T.1.nm, .slice ua T.1.ps.length uc, .slice ub T.1.ks.length ud] _ _ rfl (Q1.out.row _) Tryd.underlying25 rfl (infoNd _ _ _)) rfl ⟨_, _, rfl, Q2.out, Q3.out⟩
  have d1 : (kd == 1) = false := by simpa using k1
  by_cases k2 : kd = 2
  · have d2 : (kd == 2) = true := by simpa using k2
    have H := Lib.hid (HC2.out k2)
    clear k1 k2
    go_wp2_with fail
    refine (H.out).mono ?_
    rintro e w3 ⟨u2, u3, rfl, hk, hb⟩
    obtain ⟨ua, ub, uc, ud, rfl, rfl, _⟩ := nd_shape hk
    obtain ⟨q1, q2, q3⟩ := HFIN.out T w3 ua uc ub ud hk hb
    have Q1 := Lib.hid q1
    have Q2 := Lib.hid q2
    have Q3 := Lib.hid q3
    clear hk hb q1 q2 q3 HFIN HC1 HC2 HC3 HC5 HC9 c30 c31 c32 c50 c51 c52
    go_wp2_with (refine wpList_store_row rfl 25 (.tmp 6) (.tmp 18) rfl g6 #[.string T.1.nm, .slice ua T.1.ps.length uc, .slice ub T.1.ks.length ud] rfl rfl _ _ Q1.out (infoNd _ _ _) rfl (nd_one _ _ _ _ _ _ _) ?_)
    exact bodyPost_ret (results_rowN rfl _ _ g6 _ #[.string T.1.nm, .slice ua T.1.ps.length uc, .slice ub T.1.ks.length ud] _ _ rfl (Q1.out.row _) Tryd.underlying25 rfl (infoNd _ _ _)) rfl ⟨_, _, rfl, Q2.out, Q3.out⟩
  have d2 : (kd == 2) = false := by simpa using k2
  by_cases k3 : kd = 3
  · have d3 : (kd == 3) = true := by simpa using k3
    have H := Lib.hid (HC3.out k3)
    clear k1 k2 k3
    go_wp2_with fail
    refine (H.out).mono ?_
    rintro e w3 ⟨u2, u3, rfl, hk, hb⟩
    obtain ⟨ua, ub, uc, ud, rfl, rfl, _⟩ := nd_shape hk
    obtain ⟨q1, q2, q3⟩ := HFIN.out T w3 ua uc ub ud hk hb
    have Q1 := Lib.hid q1
    have Q2 := Lib.hid q2
    have Q3 := Lib.hid q3
    clear hk hb q1 q2 q3 HFIN HC1 HC2 HC3 HC5 HC9 c30 c31 c32 c50 c51 c52
    go_wp2_with (refine wpList_store_row rfl 25 (.tmp 6) (.tmp 18) rfl g6 #[.string T.1.nm, .slice ua T.1.ps.length uc, .slice ub T.1.ks.length ud] rfl rfl _ _ Q1.out (infoNd _ _ _) rfl (nd_one _ _ _ _ _ _ _) ?_)
    exact bodyPost_ret (results_rowN rfl _ _ g6 _ #[.string T.1.nm, .slice ua T.1.ps.length uc, .slice ub T.1.ks.length ud] _ _ rfl (Q1.out.row _) Tryd.underlying25 rfl (infoNd _ _ _)) rfl ⟨_, _, rfl, Q2.out, Q3.out⟩
  have d3 : (kd == 3) = false := by simpa using k3
  by_cases k5 : kd = 5
  · have d5 : (kd == 5) = true := by simpa using k5
    have H := Lib.hid (HC5.out k5)
    clear k1 k2 k3 k5
    go_wp2_with fail
    refine (H.out).mono ?_
    rintro e w3 ⟨u2, u3, rfl, hk, hb⟩
    obtain ⟨ua, ub, uc, ud, rfl, rfl, _⟩ := nd_shape hk
    obtain ⟨q1, q2, q3⟩ := HFIN.out T w3 ua uc ub ud hk hb
    have Q1 := Lib.hid q1
    have Q2 := Lib.hid q2
    have Q3 := Lib.hid q3
    clear hk hb q1 q2 q3 HFIN HC1 HC2 HC3 HC5 HC9 c30 c31 c32 c50 c51 c52
    go_wp2_with (refine wpList_store_row rfl 25 (.tmp 6) (.tmp 25) rfl g6 #[.string T.1.nm, .slice ua T.1.ps.length uc, .slice ub T.1.ks.length ud] rfl rfl _ _ Q1.out (infoNd _ _ _) rfl (nd_one _ _ _ _ _ _ _) ?_)
    exact bodyPost_ret (results_rowN rfl _ _ g6 _ #[.string T.1.nm, .slice ua T.1.ps.length uc, .slice ub T.1.ks.length ud] _ _ rfl (Q1.out.row _) Tryd.underlying25 rfl (infoNd _ _ _)) rfl ⟨_, _, rfl, Q2.out, Q3.out⟩
  have d5 : (kd == 5) = false := by simpa using k5
  have H := Lib.hid (HC9.out k1 k2 k3 k5)
  clear k1 k2 k3 k5
  go_wp2_with fail
  refine (H.out).mono ?_
  rintro e w3 ⟨u2, u3, rfl, hk, hb⟩
  obtain ⟨ua, ub, uc, ud, rfl, rfl, _⟩ := nd_shape hk
  obtain ⟨q1, q2, q3⟩ := HFIN.out T w3 ua uc ub ud hk hb
  have Q1 := Lib.hid q1
  have Q2 := Lib.hid q2
  have Q3 := Lib.hid q3
  clear hk hb q1 q2 q3 HFIN HC1 HC2 HC3 HC5 HC9 c30 c31 c32 c50 c51 c52
  go_wp2_with (refine wpList_store_row rfl 25 (.tmp 6) (.tmp 30) rfl g6 #[.string T.1.nm, .slice ua T.1.ps.length uc, .slice ub T.1.ks.length ud] rfl rfl _ _ Q1.out (infoNd _ _ _) rfl (nd_one _ _ _ _ _ _ _) ?_)
  exact bodyPost_ret (results_rowN rfl _ _ g6 _ #[.string T.1.nm, .slice ua T.1.ps.length uc, .slice ub T.1.ks.length ud] _ _ rfl (Q1.out.row _) Tryd.underlying25 rfl (infoNd _ _ _)) rfl ⟨_, _, rfl, Q2.out, Q3.out⟩
end Go.Proofs.YtfcclppgjfkfoaaDoor
