/- What the document's Of returns. Conditions: a slice that reads as tokens, at most 2^40 of them. -/
import Derived.Test.YtmgmpjgofolkgaaMg25
import Derived.Test.YtmgmpjgofolkgaaMg18
import Derived.WalkSpells
import Derived.Laws.IdiomStrings
import Derived.Deep.QuietTactic
import Derived.BigQuiet
import Derived.Lib.Hide
import Derived.Deep.Draws
import Derived.IntWalk
import Derived.Deep.DeepCutAuto
import Derived.Deep.RegionWith
import Derived.Deep.RegionHeld3
import Derived.Deep.WholeRow
namespace Go.Proofs.Ytmgmpjgofolkgaa
open Go.RowKit

/-- Two results, the first a struct of the call's own. -/
theorem results_rowN {P : Program} {fn : Func} {p u : Tmp} {ty : TypeId} (h : fn.results = #[.cell p ty, .tmp u]) (tmps : Array Value) (w : World) (g : Nat) (t : TypeId) (cs : Array Value) (fr : Nat × Nat) (d : TypeDesc)
    (hp : tmps.getD p undef = .pointer (some ⟨g, 0, none⟩)) (hg : w.heap[g]? = some (.cells cs t fr))
    (hu : P.underlying ty = some d) (hd : (match d with | .struct _ | .array _ _ => true | _ => false) = true) (hi : (P.info? ty).map (·.size) = some cs.size) :
    (results fn tmps).run P w = .ok (.tuple #[.agg cs, tmps.getD u undef]) w := by
  have e : (results fn tmps).run P w = ((asAddr (tmps.getD p undef)).run P w).andThen fun a w₁ => ((loadVar ty a).run P w₁).andThen fun x w₂ => .ok (.tuple #[x, tmps.getD u undef]) w₂ := by
    simp only [results, h]
    simp [Sem.run_bind, Result.andThen]
  rw [e, hp]
  simp [asAddr, run_loadVar_row w g t ty cs fr d hg hu hd hi, Result.andThen]
theorem infoNd (a b c : Value) : (Try.prog.info? 26).map (·.size) = some (#[a, b, c] : Array Value).size := by show _ = some 3; kernel_rfl
/-- So many tokens have been taken, without an error. -/
theorem runB_snoc {b0 b : BD} {l : List TK} {t : TK} (h : runB b0 l = (b, 0)) : runB b0 (l ++ [t]) = takeR b t := by
  induction l generalizing b0 with
  | nil =>
    injection h with h _
    subst h
    show runB b0 [t] = _
    unfold runB
    split
    · rename_i e; rw [e]; rfl
    · rename_i e; rw [e]
  | cons x l ih =>
    rw [List.cons_append]
    unfold runB at h ⊢
    split
    · rename_i b' e
      rw [e] at h
      exact ih h
    · rename_i b' k e
      rw [e] at h
      cases h
theorem runB_stop {b0 b : BD} {e : Nat} {l : List TK} (h : runB b0 l = (b, e + 1)) (r : List TK) : runB b0 (l ++ r) = (b, e + 1) := by
  induction l generalizing b0 with
  | nil => cases h
  | cons x l ih =>
    rw [List.cons_append]
    unfold runB at h ⊢
    split
    · rename_i b' e
      rw [e] at h
      exact ih h
    · rename_i b' k e
      rw [e] at h
      exact h
theorem take_snocT (l : List TK) {k : Nat} (hk : k < l.length) : l.take (k + 1) = l.take k ++ [l.getD k tk0] := by
  rw [List.take_succ_eq_append_getElem hk, List.getD_eq_getElem?_getD, List.getElem?_eq_getElem hk]; rfl
theorem ofR_err {l : List TK} {k : Nat} (hk : k < l.length) {b : BD} (h : runB bd0 (l.take k) = (b, 0)) (he : (takeR b (l.getD k tk0)).2 ≠ 0) : ofR l = (nd0, (takeR b (l.getD k tk0)).2) := by
  have h1 : runB bd0 (l.take (k + 1)) = takeR b (l.getD k tk0) := by rw [take_snocT l hk]; exact runB_snoc h
  obtain ⟨b', e, h2⟩ : ∃ b' e, takeR b (l.getD k tk0) = (b', e) := ⟨_, _, rfl⟩
  rw [h2] at h1 he ⊢
  cases e with
  | zero => exact absurd rfl he
  | succ e =>
    have h3 := runB_stop h1 (l.drop (k + 1))
    rw [List.take_append_drop] at h3
    unfold ofR
    rw [h3]
theorem ofR_end {l : List TK} {b : BD} (h : runB bd0 l = (b, 0)) : ofR l = if b.dn = true then (b.rt, 0) else (nd0, 6) := by
  unfold ofR
  rw [h]
theorem nd0_at (w : World) (G : Nat → Prop) : NdAt w G nd0 (.slice none 0 0) (.slice none 0 0) :=
  @NdAt.mk w G ByteArray.empty [] [] none none 0 0 (fun _ => undef) (fun _ => undef) (.inl rfl) (Nat.le_refl _) (Nat.zero_le _) (Nat.le_refl _) (Nat.zero_le _) (.inl rfl) (fun _ hi => absurd hi (Nat.not_lt_zero _))
theorem zl_one : (#[.string ⟨#[]⟩, .slice none 0 0, .slice none 0 0] : Array Value).all (·.oneCell') = true := by
  rw [Array.all_eq_true_iff_forall_mem]
  intro v hv
  simp at hv
  rcases hv with rfl | rfl <;> rfl
theorem moved_setRow (w : World) (g : Nat) (cs : Array Value) : Moved w (w.setRow g cs) (fun k => k = g) (fun k => k = g) :=
  ⟨rfl, rfl, rfl, by rw [size_setRow]; exact Nat.le_refl _, fun k _ hn => setRow_other w g k cs (fun e => hn e), fun k hk => .inl hk⟩
theorem BX.low {w : World} {B g : Nat} {b : BD} {vo r2 r3 : Value} {L : List ON} (h : BX w B g b vo L r2 r3) {k : Nat} (hk : fpO g vo L k) : B ≤ k := by
  rcases hk with rfl | hk | ⟨x, hx, hk | hk⟩
  · exact h.gB
  · exact (h.row.lt k hk).1
  · exact ((h.each x hx).p.lt k hk).1
  · exact ((h.each x hx).q.lt k hk).1

set_option maxHeartbeats 1600000 in
set_option maxRecDepth 100000 in
theorem rOf_any (A : Option Addr) (cap : Nat) (l : List TK) (w : World) (hr : RdTk w A l) (hl : l.length ≤ 1099511627776) :
    Calls Try.prog 20 #[.slice A l.length cap] w fun e w' => ∃ v2 v3, e = .returned (.tuple #[.agg #[.string (ofR l).1.nm, v2, v3], .int .i64 ((ofR l).2 : Int)]) ∧ NdAt w' (fun k => w.heap.size ≤ k) (ofR l).1 v2 v3 ∧ Below w.heap.size w w' := by
  have HR := Lib.hid hr
  have HER := Lib.hid (fun k (hk : k < l.length) b (h : runB bd0 (l.take k) = (b, 0)) he => ofR_err hk h he)
  have HEN : Hid (∀ b, runB bd0 (l.take l.length) = (b, 0) → ofR l = if b.dn = true then (b.rt, 0) else (nd0, 6)) := fun b h => by rw [List.take_length] at h; exact ofR_end h
  have HSN : Hid (∀ k, k < l.length → ∀ b, runB bd0 (l.take k) = (b, 0) → runB bd0 (l.take (k + 1)) = takeR b (l.getD k tk0)) := fun k hk b h => by rw [take_snocT l hk]; exact runB_snoc h
  generalize ofR l = R at *
  have hA0 := Arr.new w 26 zeroN
  have hA1 := hA0.alloc (.cells #[.slice none 0 0, .bool false, .string ⟨#[]⟩, .slice none 0 0, .slice none 0 0, .int .i64 0, .int .i64 0] 77)
  have hG1 := Arr.new1 w (.cells zeroN 26) 77 #[.slice none 0 0, .bool false, .string ⟨#[]⟩, .slice none 0 0, .slice none 0 0, .int .i64 0, .int .i64 0]
  have hB1 : Below w.heap.size w ((w.alloc (.cells zeroN 26)).alloc (.cells #[.slice none 0 0, .bool false, .string ⟨#[]⟩, .slice none 0 0, .slice none 0 0, .int .i64 0, .int .i64 0] 77)) := ((Below.refl _ _).alloc (Nat.le_refl _) _).alloc (by rw [sz_alloc]; omega) _
  have hX1 : BX ((w.alloc (.cells zeroN 26)).alloc (.cells #[.slice none 0 0, .bool false, .string ⟨#[]⟩, .slice none 0 0, .slice none 0 0, .int .i64 0, .int .i64 0] 77)) (w.heap.size + 1) (w.heap.size + 1) bd0 (.slice none 0 0) [] (.slice none 0 0) (.slice none 0 0) :=
    ⟨hG1, Nat.le_refl _, rfl, World.ownsRow_nil _ _ _ _, fun x hx => absurd hx List.not_mem_nil, nd0_at _ _, List.pairwise_singleton _ _, List.Pairwise.nil⟩
  have HA1 := Lib.hid hA1
  have HB1 := Lib.hid hB1
  have HX1 := Lib.hid hX1
  clear hA0 hA1 hG1 hB1 hX1 hr
  go_enter Try.func20, Try.ntmps20
  go_wp2
  go_loopw [5] (fun i wr => ∃ (k : Nat) (b : BD) (vo : Value) (L : List ON) (r2 r3 : Value), k ≤ l.length ∧ i = .int .i64 k ∧ BX wr (w.heap.size + 1) (w.heap.size + 1) b vo L r2 r3 ∧ okB b ∧ Hid (runB bd0 (l.take k) = (b, 0)) ∧ Below w.heap.size w wr ∧ Arr wr w.heap.size 26 zeroN) (fun i _ => l.length - (intOf i).toNat)
  case atStart => exact ⟨0, bd0, _, _, _, _, Nat.zero_le _, rfl, HX1.out, okB_zero, rfl, HB1.out, HA1.out⟩
  case round =>
    clear HX1 HB1 HA1
    obtain ⟨k, b, vo, L, r2, r3, hk, rfl, hX, hok, HRUN, hb, hA⟩ := hrel
    have HX := Lib.hid hX
    have HB := Lib.hid hb
    have HA := Lib.hid hA
    by_cases hlt : k < l.length
    · have hki : (k : Int) < l.length := by omega
      obtain ⟨bl, off, x, rfl, ⟨h1, h2, h3⟩, HXE⟩ := (HR.out.below hb).at_ hlt
      have HTK := Lib.hid (take_any (w.heap.size + 1) (w.heap.size + 1) b vo L r2 r3 x wr hX hok)
      have HOK := Lib.hid (okB_take b x hok)
      have hE := HER.out k hlt b HRUN.out
      have hS := HSN.out k hlt b HRUN.out
      rw [HXE.out] at hE hS
      have HE := Lib.hid hE
      have HS := Lib.hid hS
      have HLOW := Lib.hid (fun k hk => hX.low (k := k) hk)
      have hsz := hb.size
      obtain ⟨kd, nm, vl⟩ := x
      simp only at h1 h2 h3 HTK
      obtain ⟨b', e', hbe⟩ : ∃ b' e', takeR b ⟨kd, nm, vl⟩ = (b', e') := ⟨_, _, rfl⟩
      rw [hbe] at HTK HE HS HOK
      simp only at HTK HE HOK
      clear hX hok hb hA hE hS hbe HXE HRUN HX
      go_wp2_with fail
      refine HTK.out.mono ?_
      rintro e w1 ⟨rfl, vo', L', r2', r3', hX', hM'⟩
      have HX' := Lib.hid hX'
      have HB' := Lib.hid (HB.out.trans (hM'.below (fun k hk => by have := HLOW.out k hk; omega) hsz))
      have HA' := Lib.hid (hM'.arr HA.out (fun hf => by have := HLOW.out _ hf; omega))
      clear hX' hM' HTK HB HA
      by_cases he : e' = 0
      · subst he
        go_wp2
        go_roundw
        case rel => exact ⟨k + 1, b', vo', L', r2', r3', by omega, by go_num, HX'.out, HOK.out, HS.out, HB'.out, HA'.out⟩
        case measure => simp [intOf]; omega
      · have HE := Lib.hid (HE.out he)
        have d1 : ((e' : Int) != 0) = true := by simp; omega
        clear HS HEN HER HSN
        go_wp2_with (refine wpList_store_row rfl 26 (.tmp 2) (.tmp 23) rfl w.heap.size #[.string ⟨#[]⟩, .slice none 0 0, .slice none 0 0] rfl rfl _ _ HA'.out (infoNd _ _ _) rfl zl_one ?_)
        exact bodyPost_ret (results_rowN rfl _ _ w.heap.size _ #[.string ⟨#[]⟩, .slice none 0 0, .slice none 0 0] _ _ rfl (HA'.out.row _) Try.underlying26 rfl (infoNd _ _ _)) rfl ⟨_, _, by rw [HE.out]; rfl, by rw [HE.out]; exact nd0_at _ _, below_setRow HB'.out (Nat.le_refl _) _⟩
    · obtain rfl : k = l.length := by omega
      have hE := HEN.out b HRUN.out
      obtain ⟨op, dn, rt, ns, pn⟩ := b
      simp only at hE
      have c1 : wr.cell? ⟨w.heap.size + 1, 1, none⟩ = some (.bool dn) := hX.arr.cell 1
      have c2 : wr.cell? ⟨w.heap.size + 1, 2, none⟩ = some (.string rt.nm) := hX.arr.cell 2
      have c3 : wr.cell? ⟨w.heap.size + 1, 3, none⟩ = some r2 := hX.arr.cell 3
      have c4 : wr.cell? ⟨w.heap.size + 1, 4, none⟩ = some r3 := hX.arr.cell 4
      clear hX hok hb hA HEN HER HSN HRUN
      cases dn with
      | false =>
        rw [if_neg (by decide)] at hE
        have HE := Lib.hid hE
        clear hE
        go_wp2_with (refine wpList_store_row rfl 26 (.tmp 2) (.tmp 30) rfl w.heap.size #[.string ⟨#[]⟩, .slice none 0 0, .slice none 0 0] rfl rfl _ _ HA.out (infoNd _ _ _) rfl zl_one ?_)
        exact bodyPost_ret (results_rowN rfl _ _ w.heap.size _ #[.string ⟨#[]⟩, .slice none 0 0, .slice none 0 0] _ _ rfl (HA.out.row _) Try.underlying26 rfl (infoNd _ _ _)) rfl ⟨_, _, by rw [HE.out]; rfl, by rw [HE.out]; exact nd0_at _ _, below_setRow HB.out (Nat.le_refl _) _⟩
      | true =>
        rw [if_pos rfl] at hE
        have HE := Lib.hid hE
        clear hE
        have HN : Hid (NdAt (wr.setRow w.heap.size #[.string rt.nm, r2, r3]) (fun k => w.heap.size ≤ k) rt r2 r3) :=
          (HX.out.rt.kept (moved_setRow wr w.heap.size _) (fun k hk e => by have := hk.1; omega)).mono (fun k hk => by have := hk.1; omega)
        have ho2 : r2.oneCell' = true ∧ r3.oneCell' = true := by
          obtain ⟨_, _, _, _, e1, e2, _⟩ := nd_shape HX.out.rt
          simp only at e1 e2
          rw [e1, e2]; exact ⟨rfl, rfl⟩
        clear HX
        go_wp2_with (refine wpList_store_row rfl 26 (.tmp 2) (.tmp 34) rfl w.heap.size #[.string rt.nm, r2, r3] rfl rfl _ _ HA.out (infoNd _ _ _) rfl (by simp [ho2.1, ho2.2]; rfl) ?_)
        exact bodyPost_ret (results_rowN rfl _ _ w.heap.size _ #[.string rt.nm, r2, r3] _ _ rfl (HA.out.row _) Try.underlying26 rfl (infoNd _ _ _)) rfl ⟨_, _, by rw [HE.out]; rfl, by rw [HE.out]; exact HN.out, below_setRow HB.out (Nat.le_refl _) _⟩
end Go.Proofs.Ytmgmpjgofolkgaa

/- What the document's low, size and Low of trees return. Conditions: a tree that is read. -/
namespace Go.Proofs.Ytmgmpjgofolkgaa
open Go.RowKit

theorem all_at {α : Type} {f : α → Bool} {l : List α} {d : α} (h : ∀ k, k < l.length → f (l.getD k d) = true) : l.all f = true := by
  rw [List.all_eq_true]
  intro x hx
  obtain ⟨k, hk, rfl⟩ := List.getElem_of_mem hx
  have := h k hk
  rwa [List.getD_eq_getElem?_getD, List.getElem?_eq_getElem hk] at this
theorem not_all_at {α : Type} {f : α → Bool} {l : List α} {d : α} (k : Nat) (hk : k < l.length) (h : f (l.getD k d) = false) : l.all f = false := by
  cases e : l.all f with
  | false => rfl
  | true =>
    rw [List.all_eq_true] at e
    have := e _ (List.getElem_mem hk)
    rw [List.getD_eq_getElem?_getD, List.getElem?_eq_getElem hk] at h
    simp only [Option.getD_some] at h
    rw [h] at this; cases this

theorem cutSum_ge (f : ND → Nat) : ∀ (l : List ND) (a : Nat), a ≤ cutSum f a l
  | [], _ => Nat.le_refl _
  | x :: r, a => by
    show a ≤ if a < 1000 then cutSum f (a + f x) r else a
    split
    · exact Nat.le_trans (Nat.le_add_right _ _) (cutSum_ge f r _)
    · exact Nat.le_refl _
/-- How far the sum has come behind j of them. -/
theorem cutSum_drop (f : ND → Nat) (l : List ND) {j : Nat} (hj : j < l.length) (a : Nat) : cutSum f a (l.drop j) = if a < 1000 then cutSum f (a + f (l.getD j nd0)) (l.drop (j + 1)) else a := by
  rw [List.drop_eq_getElem_cons hj]
  have e : l.getD j nd0 = l[j] := by rw [List.getD_eq_getElem?_getD, List.getElem?_eq_getElem hj]; rfl
  rw [e]; rfl
theorem cutSum_le (f : ND → Nat) (M : Nat) : ∀ (l : List ND) (a : Nat), (∀ x ∈ l, f x ≤ M) → cutSum f a l ≤ max a (999 + M)
  | [], a, _ => by show a ≤ _; omega
  | x :: r, a, h => by
    show (if a < 1000 then cutSum f (a + f x) r else a) ≤ _
    split
    · have h1 := cutSum_le f M r (a + f x) (fun y hy => h y (by simp [hy]))
      have h2 := h x (by simp)
      omega
    · omega
theorem low_parts {k : Nat} {n : ND} (h : lowR (k + 1) n = true) : n.nm.size ≤ 100 ∧ n.ps.length ≤ 300 ∧ n.ks.length ≤ 80 := by
  have : (decide (n.nm.size ≤ 100 ∧ n.ps.length ≤ 300 ∧ n.ks.length ≤ 80) && (n.ps.all lowP && n.ks.all (lowR k))) = true := h
  rw [Bool.and_eq_true] at this
  exact of_decide_eq_true this.1
theorem low_kids {k : Nat} {n : ND} (h : lowR (k + 1) n = true) : ∀ x ∈ n.ks, lowR k x = true := by
  have : (decide (n.nm.size ≤ 100 ∧ n.ps.length ≤ 300 ∧ n.ks.length ≤ 80) && (n.ps.all lowP && n.ks.all (lowR k))) = true := h
  rw [Bool.and_eq_true, Bool.and_eq_true] at this
  exact List.all_eq_true.1 this.2.2
theorem low_props {k : Nat} {n : ND} (h : lowR (k + 1) n = true) : ∀ x ∈ n.ps, lowP x = true := by
  have : (decide (n.nm.size ≤ 100 ∧ n.ps.length ≤ 300 ∧ n.ks.length ≤ 80) && (n.ps.all lowP && n.ks.all (lowR k))) = true := h
  rw [Bool.and_eq_true, Bool.and_eq_true] at this
  exact List.all_eq_true.1 this.2.1
theorem getD_mem {α : Type} {l : List α} {d : α} {k : Nat} (hk : k < l.length) : l.getD k d ∈ l := by
  rw [List.getD_eq_getElem?_getD, List.getElem?_eq_getElem hk]
  exact List.getElem_mem hk
theorem sizeR_le : ∀ (k : Nat) (n : ND), lowR k n = true → sizeR k n ≤ 301 + 1000 * k
  | 0, _, _ => Nat.zero_le _
  | k + 1, n, h => by
    have h1 := cutSum_le (sizeR k) (301 + 1000 * k) n.ks (1 + n.ps.length) (fun x hx => sizeR_le k x (low_kids h x hx))
    have h2 := low_parts h
    show cutSum (sizeR k) (1 + n.ps.length) n.ks ≤ _
    omega

end Go.Proofs.Ytmgmpjgofolkgaa
