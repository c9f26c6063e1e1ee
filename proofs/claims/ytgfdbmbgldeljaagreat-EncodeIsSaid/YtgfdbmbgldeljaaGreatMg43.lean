/- What package tree's reader does at next. Conditions: a reader in memory, over tokens that stay. -/
import Derived.Test.YtgfdbmbgldeljaaGreatMg42
import Derived.Test.YtgfdbmbgldeljaaGreatMg18
import Derived.Test.YtgfdbmbgldeljaaGreatMg25
import Derived.Test.YtgfdbmbgldeljaaGreatMg20
namespace Go.Proofs.YtgfdbmbgldeljaaGreat
open Go.RowKit

/-- A reader in memory, over tokens that were there in w0. -/
structure RdrT (w0 w : World) (r : Nat) (A : Option Addr) (cap : Nat) (l : List TK) (ns pn : Nat) : Prop where
  arr : Arr w r 138 #[.slice A l.length cap, .int .i64 (ns : Int), .int .i64 (pn : Int)]
  rd : RdTk w0 A l
  le : l.length ≤ cap
  mx : cap ≤ maxLen
  lo : w0.heap.size ≤ r
/-- How many tokens are not yet read. -/
def lenAt (w : World) (r : Nat) : Nat := match w.cell? ⟨r, 0, none⟩ with
  | some (.slice _ n _) => n
  | _ => 0
theorem RdrT.lenAt {w0 w : World} {r : Nat} {A : Option Addr} {cap : Nat} {l : List TK} {ns pn : Nat} (h : RdrT w0 w r A cap l ns pn) : lenAt w r = l.length := by
  have : w.cell? ⟨r, 0, none⟩ = some (.slice A l.length cap) := h.arr.cell 0
  unfold Go.Proofs.YtgfdbmbgldeljaaGreat.lenAt; rw [this]
theorem rdTk_tail {w : World} {b off : Nat} {x : TK} {m : List TK} (h : RdTk w (some ⟨b, off, none⟩) (x :: m)) : TkAt w b off x ∧ RdTk w (some ⟨b, off + 3, none⟩) m := by
  rcases h with h | ⟨b', off', e, hc⟩
  · cases h
  · injection e with e
    injection e with e1 e2 _
    subst e1 e2
    refine ⟨by simpa using hc 0 (by simp), .inr ⟨b, off + 3, rfl, fun k hk => ?_⟩⟩
    have := hc (k + 1) (by simpa using hk)
    rw [show off + 3 + k * 3 = off + (k + 1) * 3 by omega]
    simpa using this
theorem rdTk_some {w : World} {A : Option Addr} {x : TK} {m : List TK} (h : RdTk w A (x :: m)) : ∃ b off, A = some ⟨b, off, none⟩ := by
  rcases h with h | ⟨b, off, e, _⟩
  · cases h
  · exact ⟨b, off, e⟩
theorem moved_new {w wr w' : World} {F : Nat → Prop} {g : Nat} (h : Moved w wr F F) (hg : w.heap.size ≤ g) (hm : Moved wr w' (fun k => k = g) (fun k => k = g)) : Moved w w' F F := by
  have h1 : Moved w wr F (fun k => F k ∨ k = g) := h.inside (fun _ h => h) (fun k hk => hk.elim .inl (fun e => .inr (.inr (by rw [e]; exact hg))))
  have h2 : Moved wr w' (fun k => F k ∨ k = g) (fun k => F k ∨ k = g) := hm.inside (fun _ hk => .inr hk) (fun _ hk => .inl hk)
  exact (h1.trans h2).inside (fun _ h => h) (fun _ hk => .inl hk)
def tkZ : Array Value := #[.int .i64 0, .string ⟨#[]⟩, .string ⟨#[]⟩]

/-- What next leaves. -/
def NextPost (w0 w : World) (r : Nat) (l : List TK) (ns pn : Nat) (e : Ending) (w' : World) : Prop := ∃ (t : TK) (f : Bool) (A' : Option Addr) (cap' : Nat) (l' : List TK), e = .returned (.tuple #[.agg #[.int .i64 t.kd, .string t.nm, .string t.vl], .bool f]) ∧ NextP l t f l' ∧ RdrT w0 w' r A' cap' l' ns pn ∧ Moved w w' (fun k => k = r) (fun k => k = r)

set_option maxHeartbeats 1600000 in
set_option maxRecDepth 100000 in
theorem next_any (w0 : World) (r : Nat) (A : Option Addr) (cap : Nat) (l : List TK) (ns pn : Nat) (w : World) (hR : RdrT w0 w r A cap l ns pn) (hb0 : Below w0.heap.size w0 w) :
    Calls Tryz.prog 77 #[.pointer (some ⟨r, 0, none⟩)] w fun e w' => NextPost w0 w r l ns pn e w' := by
  have hba : Below w.heap.size w (w.alloc (.cells tkZ 88)) := (Below.refl _ _).alloc (Nat.le_refl _) _
  have HA2 := Lib.hid (Arr.new w 88 tkZ)
  have HR2 : Hid (RdrT w0 (w.alloc (.cells tkZ 88)) r A cap l ns pn) := ⟨hR.arr.below hba hR.arr.lt, hR.rd, hR.le, hR.mx, hR.lo⟩
  have HM2 := Lib.hid (Moved.of_below hba (fun k => k = r))
  have HG : Hid (r < w.heap.size) := hR.arr.lt
  have HB0 := Lib.hid hb0
  clear hba hR hb0
  go_enter Tryz.func77, Tryz.ntmps77
  go_wp2
  go_loopw [] (fun wr => ∃ (A' : Option Addr) (cap' : Nat) (m : List TK), RdrT w0 wr r A' cap' m ns pn ∧ Hid (nextR m = nextR l) ∧ Arr wr w.heap.size 88 tkZ ∧ Moved w wr (fun k => k = r) (fun k => k = r)) (fun wr => lenAt wr r)
  case atStart => exact ⟨A, cap, l, HR2.out, rfl, HA2.out, HM2.out⟩
  case round =>
    clear HR2 HA2 HM2
    obtain ⟨A', cap', m, hR, HNX, hA2, hM⟩ := hrel
    have HR := Lib.hid hR
    have HA2 := Lib.hid hA2
    have HM := Lib.hid hM
    have c0 : wr.cell? ⟨r, 0, none⟩ = some (.slice A' m.length cap') := hR.arr.cell 0
    have hle := hR.le
    have hmx := hR.mx
    unfold maxLen at hmx
    have HLE := Lib.hid hR.lenAt
    cases m with
    | nil =>
      have HP : Hid (NextP l tkN false []) := .inr ⟨rfl, rfl, rfl, HNX.out.symm⟩
      clear hR hA2 hM
      go_wp2_with (refine wpList_store_row rfl 88 (.tmp 2) (.tmp 29) rfl w.heap.size tkZ rfl rfl _ _ HA2.out (infoTk tkN) rfl (tkC_one tkN) ?_)
      have HR' : Hid (RdrT w0 (wr.setRow w.heap.size tkZ) r A' cap' [] ns pn) := ⟨HR.out.arr.rowFar (Nat.ne_of_lt HG.out) _, HR.out.rd, HR.out.le, HR.out.mx, HR.out.lo⟩
      exact bodyPost_ret (results_rowN rfl _ _ w.heap.size _ tkZ _ _ rfl (HA2.out.row _) Tryz.underlying88 rfl (infoTk tkN)) rfl ⟨tkN, false, A', cap', [], rfl, HP.out, HR'.out, moved_new HM.out (Nat.le_refl _) (moved_setRow wr w.heap.size _)⟩
    | cons x m =>
      obtain ⟨b, off, rfl⟩ := rdTk_some hR.rd
      obtain ⟨⟨h1, h2, h3⟩, ht⟩ := rdTk_tail hR.rd
      have HT := Lib.hid ht
      have hbw : Below w0.heap.size w0 wr := HB0.out.trans (hM.below (fun k hk => by rw [hk]; exact HR.out.lo) HB0.out.size)
      have h1 := cellK_below h1 hbw
      have h2 := cellK_below h2 hbw
      have h3 := cellK_below h3 hbw
      rw [List.length_cons] at c0 hle HLE
      obtain ⟨kd, nm, vl⟩ := x
      simp only at h1 h2 h3
      have hb4 : Below wr.heap.size wr (wr.alloc (.cells #[.int .i64 kd, .string nm, .string vl] 88)) := (Below.refl _ _).alloc (Nat.le_refl _) _
      have HA4 := Lib.hid (Arr.new wr 88 #[.int .i64 kd, .string nm, .string vl])
      have hA4r := HR.out.arr.below hb4 HR.out.arr.lt
      rw [List.length_cons] at hA4r
      have HA2 := Lib.hid (HA2.out.below hb4 HA2.out.lt)
      have HM := Lib.hid (HM.out.trans (Moved.of_below hb4 _))
      have hr4 : r < wr.heap.size := HR.out.arr.lt
      have HG2 : Hid (w.heap.size < wr.heap.size) := hA2.lt
      clear hb4 hR hA2 hM ht hbw
      have l0 : (0 : Int) < (m.length : Int) + 1 := by omega
      go_upto_region 3 with fail
      generalize wr.alloc (.cells #[.int .i64 kd, .string nm, .string vl] 88) = W4 at *
      generalize wr.heap.size = g4 at *
      have c4 : W4.cell? ⟨r, 0, none⟩ = some (.slice (some ⟨b, off, none⟩) (m.length + 1) cap') := hA4r.cell 0
      have f4 := hA4r.frozen 0
      have HAR := Lib.hid hA4r
      clear c0 hA4r
      have l1 : (1 : Int) ≤ (m.length : Int) + 1 := by omega
      have l2 : (m.length : Int) + 1 ≤ cap' := by omega
      go_upto_region 4 with fail
      have HRD : Hid (RdTk w0 (if cap' = 1 then some (⟨b, off, none⟩ : Addr) else some ⟨b, off + 3, none⟩) m) := by
        by_cases h1 : cap' = 1
        · rw [if_pos h1]
          exact .inl (List.length_eq_zero_iff.1 (by omega))
        · rw [if_neg h1]; exact HT.out
      generalize (if cap' = 1 then some (⟨b, off, none⟩ : Addr) else some ⟨b, off + 3, none⟩) = A5 at *
      have HA5 : Hid (Arr (W4.setCell ⟨r, 0, none⟩ (.slice A5 m.length (cap' - 1))) r 138 #[.slice A5 m.length (cap' - 1), .int .i64 (ns : Int), .int .i64 (pn : Int)]) := HAR.out.put 0 _
      have HR5 : Hid (RdrT w0 (W4.setCell ⟨r, 0, none⟩ (.slice A5 m.length (cap' - 1))) r A5 (cap' - 1) m ns pn) := ⟨HA5.out, HRD.out, by omega, by unfold maxLen; omega, HR.out.lo⟩
      have hr2 : w.heap.size ≠ r := (Nat.ne_of_lt HG.out).symm
      have HA25 := Lib.hid (HA2.out.far hr2 (.slice A5 m.length (cap' - 1)) (j := 0))
      have HA45 := Lib.hid (HA4.out.far (show g4 ≠ r by omega) (.slice A5 m.length (cap' - 1)) (j := 0))
      have HM5 := Lib.hid (HM.out.trans (Moved.grown (gr_cell W4 r 0 (.slice A5 m.length (cap' - 1))) (fun k hk => by injection hk with hk; exact hk.symm) (fun k hk => .inl hk)))
      clear c4 f4 HAR HA2 HA4 HM HR HRD HT HA5
      generalize W4.setCell ⟨r, 0, none⟩ (.slice A5 m.length (cap' - 1)) = W5 at *
      have k0 := HA45.out.cell 0
      have k1 := HA45.out.cell 1
      have k2 := HA45.out.cell 2
      simp only [List.getElem?_toArray, List.getElem?_cons_zero, List.getElem?_cons_succ] at k0 k1 k2
      by_cases h4 : kd = 4
      · have d4 : (kd != 4) = false := by rw [h4]; rfl
        have HN5 : Hid (nextR m = nextR l) := by
          unfold Hid; rw [← HNX.out]; exact (if_pos h4).symm
        have HL5 : Hid (lenAt W5 r < lenAt wr r) := by
          unfold Hid; rw [HLE.out, HR5.out.lenAt]; exact Nat.lt_succ_self _
        clear h4 HNX HLE
        go_wp2
        go_roundw
        case rel => exact ⟨A5, cap' - 1, m, HR5.out, HN5.out, HA25.out, HM5.out⟩
        case measure => exact HL5.out
      · have d4 : (kd != 4) = true := by simpa using h4
        have HP : Hid (NextP l ⟨kd, nm, vl⟩ true m) := .inl ⟨rfl, by rw [← HNX.out]; exact if_neg h4⟩
        have HR' : Hid (RdrT w0 (W5.setRow w.heap.size (tkC ⟨kd, nm, vl⟩)) r A5 (cap' - 1) m ns pn) := ⟨HR5.out.arr.rowFar hr2.symm _, HR5.out.rd, HR5.out.le, HR5.out.mx, HR5.out.lo⟩
        clear h4 HNX HLE
        go_wp2_with (refine wpList_store_row rfl 88 (.tmp 2) (.tmp 28) rfl w.heap.size (tkC ⟨kd, nm, vl⟩) rfl rfl _ _ HA25.out (infoTk ⟨kd, nm, vl⟩) rfl (tkC_one _) ?_)
        exact bodyPost_ret (results_rowN rfl _ _ w.heap.size _ (tkC ⟨kd, nm, vl⟩) _ _ rfl (HA25.out.row _) Tryz.underlying88 rfl (infoTk ⟨kd, nm, vl⟩)) rfl ⟨⟨kd, nm, vl⟩, true, A5, cap' - 1, m, rfl, HP.out, HR'.out, moved_new HM5.out (Nat.le_refl _) (moved_setRow W5 w.heap.size _)⟩
end Go.Proofs.YtgfdbmbgldeljaaGreat

/- A slice that reads as spots. No condition. -/
namespace Go.Proofs.YtgfdbmbgldeljaaGreat
open Go.RowKit

/-- The slice at A reads as spots. -/
def RdSpt (w : World) (A : Option Addr) (L : List SPT) : Prop := L = [] ∨ ∃ b off, A = some ⟨b, off, none⟩ ∧ ∀ k, k < L.length → ∀ j, j < 4 → w.cell? ⟨b, off + k * 4 + j, none⟩ = (spl (L.getD k ⟨ByteArray.empty, nd0, undef, undef⟩))[j]?
def spt0 : SPT := ⟨ByteArray.empty, nd0, undef, undef⟩
theorem RdSpt.below {w w' : World} {A : Option Addr} {L : List SPT} (h : RdSpt w A L) (hb : Below w.heap.size w w') : RdSpt w' A L := by
  rcases h with h | ⟨b, off, rfl, hc⟩
  · exact .inl h
  · refine .inr ⟨b, off, rfl, fun k hk j hj => ?_⟩
    have e := hc k hk j hj
    obtain ⟨v, hv⟩ : ∃ v, (spl (L.getD k ⟨ByteArray.empty, nd0, undef, undef⟩))[j]? = some v := ⟨_, List.getElem?_eq_getElem (show j < 4 from hj)⟩
    rw [hv] at e ⊢
    exact (hb.cell (p := ⟨b, off + k * 4 + j, none⟩) (World.block_lt_of_cell? w _ e)).trans e
theorem RdSpt.at_ {w : World} {A : Option Addr} {L : List SPT} (h : RdSpt w A L) {k : Nat} (hk : k < L.length) : ∃ b off, A = some ⟨b, off, none⟩ ∧ w.cell? ⟨b, off + k * 4, none⟩ = some (.string (L.getD k spt0).pa) ∧ w.cell? ⟨b, off + k * 4 + 1, none⟩ = some (.string (L.getD k spt0).nd.nm) ∧ w.cell? ⟨b, off + k * 4 + 2, none⟩ = some (L.getD k spt0).y ∧ w.cell? ⟨b, off + k * 4 + 3, none⟩ = some (L.getD k spt0).z := by
  rcases h with rfl | ⟨b, off, rfl, hc⟩
  · simp at hk
  · exact ⟨b, off, rfl, hc k hk 0 (by omega), hc k hk 1 (by omega), hc k hk 2 (by omega), hc k hk 3 (by omega)⟩
/-- The same nodes with the same paths. -/
theorem sp_same {L L2 : List SPT} (h : L.map spP = L2.map spP) : L.length = L2.length ∧ ∀ k, k < L.length → (L.getD k spt0).pa = (L2.getD k spt0).pa ∧ (L.getD k spt0).nd = (L2.getD k spt0).nd := by
  have hl : L.length = L2.length := by have := congrArg List.length h; rwa [List.length_map, List.length_map] at this
  refine ⟨hl, fun k hk => ?_⟩
  have e := congrArg (fun l => l[k]?) h
  simp only [List.getElem?_map] at e
  rw [List.getElem?_eq_getElem hk, List.getElem?_eq_getElem (by omega : k < L2.length)] at e
  have e1 : L.getD k spt0 = L[k] := by rw [List.getD_eq_getElem?_getD, List.getElem?_eq_getElem hk]; rfl
  have e2 : L2.getD k spt0 = L2[k] := by rw [List.getD_eq_getElem?_getD, List.getElem?_eq_getElem (by omega : k < L2.length)]; rfl
  rw [e1, e2]
  simp only [Option.map_some, Option.some.injEq, spP, Prod.mk.injEq] at e
  exact ⟨ByteArray.ext (Array.ext' e.1), e.2⟩
end Go.Proofs.YtgfdbmbgldeljaaGreat

/- What package tree must do, said over nothing of its code; and the awake() of layer 12's statements. Conditions: those contracts. -/
namespace Go.Proofs.YtgfdbmbgldeljaaGreat
open Go.RowKit

/-- The tree that awake() takes. -/
def n12 : ND := .mk ⟨#[]⟩ [⟨⟨#[97]⟩, ⟨#[120]⟩⟩] [.mk ⟨#[98]⟩ [] []]
theorem low12 : LowR n12 = true := by decide +kernel
theorem fits12 : fitsR n12 = true := by decide +kernel
theorem of12 : ofR (tokR 8 n12) = (n12, 0) := of_tokens n12 fits12
theorem len12 : (tokR 8 n12).length = 5 := by rfl
theorem count12 : countR 9 n12 = ⟨2, 1, 2⟩ := by rfl
theorem nil12 : ofR [] = (nd0, 6) := by rfl
theorem lown12 : lowR 12 n12 = true := (low_and low12).1
theorem lown0 : lowR 12 nd0 = true := by decide +kernel
theorem same12 : sameR 20 n12 nd0 = false := by decide +kernel
theorem sm12 : sameR 20 n12 n12 = true := sameR_refl 20 n12

theorem arr_nd {w : World} {g : Nat} {a : ByteArray} {v2 v3 : Value} {t : TypeId} (h : Arr w g t #[.string a, v2, v3]) : w.cell? ⟨g, 0, none⟩ = some (.string a) ∧ w.cell? ⟨g, 1, none⟩ = some v2 ∧ w.cell? ⟨g, 2, none⟩ = some v3 := ⟨h.cell 0, h.cell 1, h.cell 2⟩

end Go.Proofs.YtgfdbmbgldeljaaGreat
