/- A node that is being made, in a variable of a call's own: what each change of it leaves. No condition: nothing of the program stands in it but types. -/
import Derived.Test.YtmgmpjgofolkgaaMg19
import Derived.Test.YtmgmpjgofolkgaaMg38
import Derived.Test.YtmgmpjgofolkgaaMg26
namespace Go.Proofs.Ytmgmpjgofolkgaa
open Go.RowKit

/-- What may change of a node that is being made. -/
def fpN (g : Nat) (x : ON) (k : Nat) : Prop := k = g ∨ ownS x.p k ∨ ownS x.q k
/-- Block g is a node that is being made, with two slices of its own. -/
structure NodeV (w : World) (B g : Nat) (x : ON) : Prop where
  arr : Arr w g 26 #[.string x.nm, x.p, x.q]
  on : OnAt w B (fpN g x) x
  gB : B ≤ g
  sep : x.q.ownBlock ≠ some g
section
variable {w w' : World} {B g : Nat} {x : ON}
theorem NodeV.low (h : NodeV w B g x) {k : Nat} (hk : fpN g x k) : B ≤ k := by
  rcases hk with rfl | hk | hk
  · exact h.gB
  · exact (h.on.p.lt k hk).1
  · exact (h.on.q.lt k hk).1
theorem NodeV.high (h : NodeV w B g x) {k : Nat} (hk : fpN g x k) : k < w.heap.size := by
  rcases hk with rfl | hk | hk
  · exact h.arr.lt
  · exact (h.on.p.lt k hk).2
  · exact (h.on.q.lt k hk).2
/-- What changes elsewhere, and what is new, leaves it. -/
theorem NodeV.apart {F F' : Nat → Prop} (h : NodeV w B g x) (hm : Moved w w' F F') (hF : ∀ k, F k → k < B) : NodeV w' B g x :=
  ⟨hm.arr h.arr (fun hf => by have := hF g hf; have := h.gB; omega),
   ⟨ow_moved h.on.p hm fun k hk hf => by have := hF k hf; have := (h.on.p.lt k hk).1; omega, ow_moved h.on.q hm fun k hk hf => by have := hF k hf; have := (h.on.q.lt k hk).1; omega,
    fun c hc => (h.on.k c hc).kept hm fun k hk hf => by have := hF k hf; have := hk.1; omega⟩, h.gB, h.sep⟩
theorem NodeV.below (h : NodeV w B g x) (hb : Below w.heap.size w w') : NodeV w' B g x := h.apart (F := fun _ => False) (F' := fun _ => False) (Moved.of_below hb _) (fun _ h => h.elim)
theorem nv_new {nm : ByteArray} (hA : Arr w g 26 #[.string nm, .slice none 0 0, .slice none 0 0]) (hB : B ≤ g) : NodeV w B g ⟨nm, [], [], .slice none 0 0, .slice none 0 0⟩ :=
  ⟨hA, ⟨World.ownsRow_nil _ _ _ _, World.ownsRow_nil _ _ _ _, fun c hc => absurd hc List.not_mem_nil⟩, hB, fun h => by cases h⟩
/-- A property has been added. -/
theorem nv_prop (h : NodeV w B g x) (pr : PR) {p' : Value} (hA : Arr w' g 26 #[.string x.nm, p', x.q]) (hp : w'.ownsRow B 96 2 p' (x.ps.length + 1) (prL (x.ps ++ [pr])))
    (hm : Moved w w' (fun k => k = g ∨ ownS x.p k) (fun k => k = g ∨ ownS p' k)) : NodeV w' B g ⟨x.nm, x.ps ++ [pr], x.kl, p', x.q⟩ ∧ Moved w w' (fpN g x) (fpN g ⟨x.nm, x.ps ++ [pr], x.kl, p', x.q⟩) := by
  have hM : Moved w w' (fpN g x) (fpN g ⟨x.nm, x.ps ++ [pr], x.kl, p', x.q⟩) := hm.inside (fun k hk => hk.imp id .inl) (fun k hk => by
    rcases hk with hk | hk | hk
    · exact .inl (.inl hk)
    · exact .inr (.inl (.inr hk))
    · exact .inl (.inr (.inr hk)))
  refine ⟨⟨hA, ⟨by show w'.ownsRow B _ 2 p' (x.ps ++ [pr]).length _; rw [List.length_append]; exact hp, ow_moved h.on.q hm fun k hk hf => ?_, fun c hc => nd_moved (h.on.k c hc) hM⟩, h.gB, h.sep⟩, hM⟩
  rcases hf with rfl | hf
  · exact h.sep hk
  · exact apart_types h.on.p h.on.q tyneT.2.2 k hf hk
/-- A kid has been added. -/
theorem nv_kid (h : NodeV w B g x) (c : KD) {q' : Value} (hA : Arr w' g 26 #[.string x.nm, x.p, q']) (hq : w'.ownsRow B 26 3 q' (x.kl.length + 1) (kdL (x.kl ++ [c])))
    (hm : Moved w w' (fun k => k = g ∨ ownS x.q k) (fun k => k = g ∨ ownS q' k)) (hs : q'.ownBlock ≠ some g) (hc : NdAt w (fun k => B ≤ k ∧ ¬ fpN g x k) c.nd c.y c.z) :
    NodeV w' B g ⟨x.nm, x.ps, x.kl ++ [c], x.p, q'⟩ ∧ Moved w w' (fpN g x) (fpN g ⟨x.nm, x.ps, x.kl ++ [c], x.p, q'⟩) := by
  have hM : Moved w w' (fpN g x) (fpN g ⟨x.nm, x.ps, x.kl ++ [c], x.p, q'⟩) := hm.inside (fun k hk => hk.imp id .inr) (fun k hk => by
    rcases hk with hk | hk | hk
    · exact .inl (.inl hk)
    · exact .inl (.inr (.inl hk))
    · exact .inr (.inl (.inr hk)))
  refine ⟨⟨hA, ⟨ow_moved h.on.p hm fun k hk hf => ?_, by show w'.ownsRow B _ 3 q' (x.kl ++ [c]).length _; rw [List.length_append]; exact hq, fun d hd => ?_⟩, h.gB, hs⟩, hM⟩
  · rcases hf with rfl | hf
    · exact ow_arr h.arr h.on.p (Ne.symm tyneT.2.2) hk.symm
    · exact apart_types h.on.p h.on.q tyneT.2.2 k hk hf
  · rcases List.mem_append.1 hd with hd | hd
    · exact nd_moved (h.on.k d hd) hM
    · rw [List.mem_singleton] at hd; subst hd
      exact nd_moved hc hM
/-- It is done. -/
theorem nv_done (h : NodeV w B g x) : NdAt w (fun k => B ≤ k) x.nd x.p x.q := nd_of_on h.on (fun _ hk _ => hk) (fun k hk => (h.on.p.lt k hk).1) (fun k hk => (h.on.q.lt k hk).1)
end
end Go.Proofs.Ytmgmpjgofolkgaa

/- What package tree's reader does at next. Conditions: a reader in memory, over tokens that stay. -/
namespace Go.Proofs.Ytmgmpjgofolkgaa
open Go.RowKit

/-- A reader in memory, over tokens that were there in w0. -/
structure RdrT (w0 w : World) (r : Nat) (A : Option Addr) (cap : Nat) (l : List TK) (ns pn : Nat) : Prop where
  arr : Arr w r 88 #[.slice A l.length cap, .int .i64 (ns : Int), .int .i64 (pn : Int)]
  rd : RdTk w0 A l
  le : l.length ≤ cap
  mx : cap ≤ maxLen
  lo : w0.heap.size ≤ r
/-- How many tokens are not yet read. -/
def lenAt (w : World) (r : Nat) : Nat := match w.cell? ⟨r, 0, none⟩ with
  | some (.slice _ n _) => n
  | _ => 0
theorem RdrT.lenAt {w0 w : World} {r : Nat} {A : Option Addr} {cap : Nat} {l : List TK} {ns pn : Nat} (h : RdrT w0 w r A cap l ns pn) : lenAt w r = l.length := by
  have : w.cell? ⟨r, 0, none⟩ = some (.slice A l.length cap) := h.arr.cell 0
  unfold Go.Proofs.Ytmgmpjgofolkgaa.lenAt; rw [this]
theorem rdTk_tail {w : World} {b off : Nat} {x : TK} {m : List TK} (h : RdTk w (some ⟨b, off, none⟩) (x :: m)) : TkAt w b off x ∧ RdTk w (some ⟨b, off + 3, none⟩) m := by
  rcases h with h | ⟨b', off', e, hc⟩
  · cases h
  · injection e with e
    injection e with e1 e2 _
    subst e1 e2
    refine ⟨by simpa using hc 0 (by simp), .inr ⟨b, off + 3, rfl, fun k hk => ?_⟩⟩
    have := hc (k + 1) (by simpa using hk)
    rw [show off + 3 + k * 3 = off + (k + 1) * 3 by omega]
    simpa using this
theorem rdTk_some {w : World} {A : Option Addr} {x : TK} {m : List TK} (h : RdTk w A (x :: m)) : ∃ b off, A = some ⟨b, off, none⟩ := by
  rcases h with h | ⟨b, off, e, _⟩
  · cases h
  · exact ⟨b, off, e⟩
theorem moved_new {w wr w' : World} {F : Nat → Prop} {g : Nat} (h : Moved w wr F F) (hg : w.heap.size ≤ g) (hm : Moved wr w' (fun k => k = g) (fun k => k = g)) : Moved w w' F F := by
  have h1 : Moved w wr F (fun k => F k ∨ k = g) := h.inside (fun _ h => h) (fun k hk => hk.elim .inl (fun e => .inr (.inr (by rw [e]; exact hg))))
  have h2 : Moved wr w' (fun k => F k ∨ k = g) (fun k => F k ∨ k = g) := hm.inside (fun _ hk => .inr hk) (fun _ hk => .inl hk)
  exact (h1.trans h2).inside (fun _ h => h) (fun _ hk => .inl hk)
def tkZ : Array Value := #[.int .i64 0, .string ⟨#[]⟩, .string ⟨#[]⟩]

/-- What next leaves. -/
def NextPost (w0 w : World) (r : Nat) (l : List TK) (ns pn : Nat) (e : Ending) (w' : World) : Prop := ∃ (t : TK) (f : Bool) (A' : Option Addr) (cap' : Nat) (l' : List TK), e = .returned (.tuple #[.agg #[.int .i64 t.kd, .string t.nm, .string t.vl], .bool f]) ∧ NextP l t f l' ∧ RdrT w0 w' r A' cap' l' ns pn ∧ Moved w w' (fun k => k = r) (fun k => k = r)

set_option maxHeartbeats 1600000 in
set_option maxRecDepth 100000 in
theorem next_any (w0 : World) (r : Nat) (A : Option Addr) (cap : Nat) (l : List TK) (ns pn : Nat) (w : World) (hR : RdrT w0 w r A cap l ns pn) (hb0 : Below w0.heap.size w0 w) :
    Calls Try.prog 43 #[.pointer (some ⟨r, 0, none⟩)] w fun e w' => NextPost w0 w r l ns pn e w' := by
  have hba : Below w.heap.size w (w.alloc (.cells tkZ 70)) := (Below.refl _ _).alloc (Nat.le_refl _) _
  have HA2 := Lib.hid (Arr.new w 70 tkZ)
  have HR2 : Hid (RdrT w0 (w.alloc (.cells tkZ 70)) r A cap l ns pn) := ⟨hR.arr.below hba hR.arr.lt, hR.rd, hR.le, hR.mx, hR.lo⟩
  have HM2 := Lib.hid (Moved.of_below hba (fun k => k = r))
  have HG : Hid (r < w.heap.size) := hR.arr.lt
  have HB0 := Lib.hid hb0
  clear hba hR hb0
  go_enter Try.func43, Try.ntmps43
  go_wp2
  go_loopw [] (fun wr => ∃ (A' : Option Addr) (cap' : Nat) (m : List TK), RdrT w0 wr r A' cap' m ns pn ∧ Hid (nextR m = nextR l) ∧ Arr wr w.heap.size 70 tkZ ∧ Moved w wr (fun k => k = r) (fun k => k = r)) (fun wr => lenAt wr r)
  case atStart => exact ⟨A, cap, l, HR2.out, rfl, HA2.out, HM2.out⟩
  case round =>
    clear HR2 HA2 HM2
    obtain ⟨A', cap', m, hR, HNX, hA2, hM⟩ := hrel
    have HR := Lib.hid hR
    have HA2 := Lib.hid hA2
    have HM := Lib.hid hM
    have c0 : wr.cell? ⟨r, 0, none⟩ = some (.slice A' m.length cap') := hR.arr.cell 0
    have hle := hR.le
    have hmx := hR.mx
    unfold maxLen at hmx
    have HLE := Lib.hid hR.lenAt
    cases m with
    | nil =>
      have HP : Hid (NextP l tkN false []) := .inr ⟨rfl, rfl, rfl, HNX.out.symm⟩
      clear hR hA2 hM
      go_wp2_with (refine wpList_store_row rfl 70 (.tmp 2) (.tmp 29) rfl w.heap.size tkZ rfl rfl _ _ HA2.out (infoTk tkN) rfl (tkC_one tkN) ?_)
      have HR' : Hid (RdrT w0 (wr.setRow w.heap.size tkZ) r A' cap' [] ns pn) := ⟨HR.out.arr.rowFar (Nat.ne_of_lt HG.out) _, HR.out.rd, HR.out.le, HR.out.mx, HR.out.lo⟩
      exact bodyPost_ret (results_rowN rfl _ _ w.heap.size _ tkZ _ _ rfl (HA2.out.row _) Try.underlying70 rfl (infoTk tkN)) rfl ⟨tkN, false, A', cap', [], rfl, HP.out, HR'.out, moved_new HM.out (Nat.le_refl _) (moved_setRow wr w.heap.size _)⟩
    | cons x m =>
      obtain ⟨b, off, rfl⟩ := rdTk_some hR.rd
      obtain ⟨⟨h1, h2, h3⟩, ht⟩ := rdTk_tail hR.rd
      have HT := Lib.hid ht
      have hbw : Below w0.heap.size w0 wr := HB0.out.trans (hM.below (fun k hk => by rw [hk]; exact HR.out.lo) HB0.out.size)
      have h1 := cellK_below h1 hbw
      have h2 := cellK_below h2 hbw
      have h3 := cellK_below h3 hbw
      rw [List.length_cons] at c0 hle HLE
      obtain ⟨kd, nm, vl⟩ := x
      simp only at h1 h2 h3
      have hb4 : Below wr.heap.size wr (wr.alloc (.cells #[.int .i64 kd, .string nm, .string vl] 70)) := (Below.refl _ _).alloc (Nat.le_refl _) _
      have HA4 := Lib.hid (Arr.new wr 70 #[.int .i64 kd, .string nm, .string vl])
      have hA4r := HR.out.arr.below hb4 HR.out.arr.lt
      rw [List.length_cons] at hA4r
      have HA2 := Lib.hid (HA2.out.below hb4 HA2.out.lt)
      have HM := Lib.hid (HM.out.trans (Moved.of_below hb4 _))
      have hr4 : r < wr.heap.size := HR.out.arr.lt
      have HG2 : Hid (w.heap.size < wr.heap.size) := hA2.lt
      clear hb4 hR hA2 hM ht hbw
      have l0 : (0 : Int) < (m.length : Int) + 1 := by omega
      go_upto_region 3 with fail
      generalize wr.alloc (.cells #[.int .i64 kd, .string nm, .string vl] 70) = W4 at *
      generalize wr.heap.size = g4 at *
      have c4 : W4.cell? ⟨r, 0, none⟩ = some (.slice (some ⟨b, off, none⟩) (m.length + 1) cap') := hA4r.cell 0
      have f4 := hA4r.frozen 0
      have HAR := Lib.hid hA4r
      clear c0 hA4r
      have l1 : (1 : Int) ≤ (m.length : Int) + 1 := by omega
      have l2 : (m.length : Int) + 1 ≤ cap' := by omega
      go_upto_region 4 with fail
      have HRD : Hid (RdTk w0 (if cap' = 1 then some (⟨b, off, none⟩ : Addr) else some ⟨b, off + 3, none⟩) m) := by
        by_cases h1 : cap' = 1
        · rw [if_pos h1]
          exact .inl (List.length_eq_zero_iff.1 (by omega))
        · rw [if_neg h1]; exact HT.out
      generalize (if cap' = 1 then some (⟨b, off, none⟩ : Addr) else some ⟨b, off + 3, none⟩) = A5 at *
      have HA5 : Hid (Arr (W4.setCell ⟨r, 0, none⟩ (.slice A5 m.length (cap' - 1))) r 88 #[.slice A5 m.length (cap' - 1), .int .i64 (ns : Int), .int .i64 (pn : Int)]) := HAR.out.put 0 _
      have HR5 : Hid (RdrT w0 (W4.setCell ⟨r, 0, none⟩ (.slice A5 m.length (cap' - 1))) r A5 (cap' - 1) m ns pn) := ⟨HA5.out, HRD.out, by omega, by unfold maxLen; omega, HR.out.lo⟩
      have hr2 : w.heap.size ≠ r := (Nat.ne_of_lt HG.out).symm
      have HA25 := Lib.hid (HA2.out.far hr2 (.slice A5 m.length (cap' - 1)) (j := 0))
      have HA45 := Lib.hid (HA4.out.far (show g4 ≠ r by omega) (.slice A5 m.length (cap' - 1)) (j := 0))
      have HM5 := Lib.hid (HM.out.trans (Moved.grown (gr_cell W4 r 0 (.slice A5 m.length (cap' - 1))) (fun k hk => by injection hk with hk; exact hk.symm) (fun k hk => .inl hk)))
      clear c4 f4 HAR HA2 HA4 HM HR HRD HT HA5
      generalize W4.setCell ⟨r, 0, none⟩ (.slice A5 m.length (cap' - 1)) = W5 at *
      have k0 := HA45.out.cell 0
      have k1 := HA45.out.cell 1
      have k2 := HA45.out.cell 2
      simp only [List.getElem?_toArray, List.getElem?_cons_zero, List.getElem?_cons_succ] at k0 k1 k2
      by_cases h4 : kd = 4
      · have d4 : (kd != 4) = false := by rw [h4]; rfl
        have HN5 : Hid (nextR m = nextR l) := by
          unfold Hid; rw [← HNX.out]; exact (if_pos h4).symm
        have HL5 : Hid (lenAt W5 r < lenAt wr r) := by
          unfold Hid; rw [HLE.out, HR5.out.lenAt]; exact Nat.lt_succ_self _
        clear h4 HNX HLE
        go_wp2
        go_roundw
        case rel => exact ⟨A5, cap' - 1, m, HR5.out, HN5.out, HA25.out, HM5.out⟩
        case measure => exact HL5.out
      · have d4 : (kd != 4) = true := by simpa using h4
        have HP : Hid (NextP l ⟨kd, nm, vl⟩ true m) := .inl ⟨rfl, by rw [← HNX.out]; exact if_neg h4⟩
        have HR' : Hid (RdrT w0 (W5.setRow w.heap.size (tkC ⟨kd, nm, vl⟩)) r A5 (cap' - 1) m ns pn) := ⟨HR5.out.arr.rowFar hr2.symm _, HR5.out.rd, HR5.out.le, HR5.out.mx, HR5.out.lo⟩
        clear h4 HNX HLE
        go_wp2_with (refine wpList_store_row rfl 70 (.tmp 2) (.tmp 28) rfl w.heap.size (tkC ⟨kd, nm, vl⟩) rfl rfl _ _ HA25.out (infoTk ⟨kd, nm, vl⟩) rfl (tkC_one _) ?_)
        exact bodyPost_ret (results_rowN rfl _ _ w.heap.size _ (tkC ⟨kd, nm, vl⟩) _ _ rfl (HA25.out.row _) Try.underlying70 rfl (infoTk ⟨kd, nm, vl⟩)) rfl ⟨⟨kd, nm, vl⟩, true, A5, cap' - 1, m, rfl, HP.out, HR'.out, moved_new HM5.out (Nat.le_refl _) (moved_setRow W5 w.heap.size _)⟩
end Go.Proofs.Ytmgmpjgofolkgaa
