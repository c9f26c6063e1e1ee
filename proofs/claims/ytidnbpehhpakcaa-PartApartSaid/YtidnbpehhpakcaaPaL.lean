/- All that the law PartPlays holds in memory, and what its acts make of it. Conditions: the contracts of package part. -/
import Derived.Test.YtidnbpehhpakcaaPaW
namespace Go.Proofs.Ytidnbpehhpakcaa
open Go.RowKit

/-- A table, a flash that is c and its guard, the document's guard of a flash that is c', with one sector. -/
def Al6 (TB : World → Option Addr → List PT → Prop) (W : World) (q : Option Addr) (L : List PT) (gg gc gx bl gr : Nat) (K : List Bool) (c c' : St) (x : Int) : Prop :=
  Tri TB W q L gg gc K c ∧ RR W gx c' ∧ Arr W gr 53 #[.pointer (some ⟨gx, 0, none⟩), .slice (some ⟨bl, 0, none⟩) 1 1] ∧ Arr W bl 3 #[.int .i64 x]
section
variable {TB : World → Option Addr → List PT → Prop} {W W' : World} {q : Option Addr} {L : List PT} {gg gc gx bl gr : Nat} {K : List Bool} {c c' c2 : St} {x : Int}
theorem Al6.below (H : PartOK TB) (h : Al6 TB W q L gg gc gx bl gr K c c' x) (hb : Below W.heap.size W W') : Al6 TB W' q L gg gc gx bl gr K c c' x := by
  obtain ⟨h1, h2, h3, h4⟩ := h
  exact ⟨h1.below H hb, h2.below hb h2.lt, h3.below hb h3.lt, h4.below hb h4.lt⟩
theorem Al6.nextN (H : PartOK TB) (h : Al6 TB W q L gg gc gx bl gr K c c' x) (hN : RN W' gc c2) (hg : W.grownBy W' (some gc)) (o : gc < gg ∧ gg < gx ∧ gx < bl ∧ bl < gr) : Al6 TB W' q L gg gc gx bl gr K c2 c' x := by
  obtain ⟨h1, h2, h3, h4⟩ := h
  exact ⟨h1.next H hN hg, h2.grown hg (by omega), h3.grown hg (fun e => by injection e with e; omega), h4.grown hg (fun e => by injection e with e; omega)⟩
theorem Al6.nextX (H : PartOK TB) (h : Al6 TB W q L gg gc gx bl gr K c c' x) (hX : RR W' gx c2) (hg : W.grownBy W' (some gx)) (o : gc < gg ∧ gg < gx ∧ gx < bl ∧ bl < gr) : Al6 TB W' q L gg gc gx bl gr K c c2 x := by
  obtain ⟨⟨ht, h1, h1', h1''⟩, h2, h3, h4⟩ := h
  exact ⟨⟨H.grownX _ _ _ _ _ _ ht h2 hg, h1.grown hg (fun e => by injection e with e; injection e with e; omega), h1'.grown hg (by omega), h1''⟩, hX, h3.grown hg (fun e => by injection e with e; omega), h4.grown hg (fun e => by injection e with e; omega)⟩
theorem Al6.rg (h : Al6 TB W q L gg gc gx bl gr K c c' x) : RG W gr gx (some ⟨bl, 0, none⟩) 1 [x] := by
  obtain ⟨_, _, h3, h4⟩ := h
  refine ⟨h3, .inr ⟨bl, 0, rfl, h4.lt, fun j hj => ?_⟩⟩
  obtain rfl : j = 0 := by simp at hj; omega
  exact h4.cell 0
end
/-- An act's cells. -/
def paC (a : PA) : Array Value := #[.int .i64 a.kind, .string a.nm, .int .i64 a.pl, .int .i64 a.n, .string a.s]
/-- What is there beside an act that is being done. -/
def Ac6 (TB : World → Option Addr → List PT → Prop) (w W : World) (A : Option Addr) (q : Option Addr) (L : List PT) (gg gc gx bl gr : Nat) (K : List Bool) (c c' : St) (x : Int) (g : Nat) (a : PA) : Prop :=
  Al6 TB W q L gg gc gx bl gr K c c' x ∧ Arr W g 55 (paC a) ∧ RdP W A L ∧ Below w.heap.size w W
section
variable {TB : World → Option Addr → List PT → Prop} {w W W' : World} {A q : Option Addr} {L : List PT} {gg gc gx bl gr : Nat} {K : List Bool} {c c' c2 : St} {x : Int} {g : Nat} {a : PA}
theorem Ac6.below (H : PartOK TB) (h : Ac6 TB w W A q L gg gc gx bl gr K c c' x g a) (hb : Below W.heap.size W W') : Ac6 TB w W' A q L gg gc gx bl gr K c c' x g a := by
  obtain ⟨h1, h2, h3, h4⟩ := h
  exact ⟨h1.below H hb, h2.below hb h2.lt, h3.below hb, h4.trans (hb.mono h4.size)⟩
theorem Ac6.nextN (H : PartOK TB) (hr : RdP w A L) (h : Ac6 TB w W A q L gg gc gx bl gr K c c' x g a) (hN : RN W' gc c2) (hg : W.grownBy W' (some gc)) (o : gc < gg ∧ gg < gx ∧ gx < bl ∧ bl < gr) (o2 : gr < g ∧ w.heap.size ≤ gc) : Ac6 TB w W' A q L gg gc gx bl gr K c2 c' x g a := by
  obtain ⟨h1, h2, h3, h4⟩ := h
  have hb := below_grown h4 hg o2.2 h4.size
  exact ⟨h1.nextN H hN hg o, h2.grown hg (fun e => by injection e with e; omega), hr.below hb, hb⟩
theorem Ac6.nextX (H : PartOK TB) (hr : RdP w A L) (h : Ac6 TB w W A q L gg gc gx bl gr K c c' x g a) (hX : RR W' gx c2) (hg : W.grownBy W' (some gx)) (o : gc < gg ∧ gg < gx ∧ gx < bl ∧ bl < gr) (o2 : gr < g ∧ w.heap.size ≤ gc) : Ac6 TB w W' A q L gg gc gx bl gr K c c2 x g a := by
  obtain ⟨h1, h2, h3, h4⟩ := h
  have hb := below_grown h4 hg (by omega) h4.size
  exact ⟨h1.nextX H hX hg o, h2.grown hg (fun e => by injection e with e; omega), hr.below hb, hb⟩
theorem Ac6.cells (h : Ac6 TB w W A q L gg gc gx bl gr K c c' x g a) : W.cell? ⟨g, 1, none⟩ = some (.string a.nm) ∧ W.cell? ⟨g, 2, none⟩ = some (.int .i64 a.pl) ∧ W.cell? ⟨g, 3, none⟩ = some (.int .i64 a.n) ∧ W.cell? ⟨g, 4, none⟩ = some (.string a.s) := by
  obtain ⟨_, h2, _⟩ := h
  exact ⟨h2.cell 1, h2.cell 2, h2.cell 3, h2.cell 4⟩
/-- Read, Write and Erase, of both. -/
theorem ac6_read (H : PartOK TB) (hg : Good L) (h : Ac6 TB w W A q L gg gc gx bl gr K c c' x g a) (hp : a.pl < 9223372036854775808 ∧ -9223372036854775808 ≤ a.pl) (hn : a.n < 9223372036854775808 ∧ -9223372036854775808 ≤ a.n) :
    Calls Try.prog 21 #[.pointer q, .pointer (some ⟨gg, 0, none⟩), .string a.nm, .int .i64 a.pl, .int .i64 a.n] W fun e w' => e = .returned (.tuple #[.string (prdS L c a.nm a.pl a.n).1, .int .i64 ((prdS L c a.nm a.pl a.n).2 : Int)]) ∧ Ac6 TB w w' A q L gg gc gx bl gr K c c' x g a :=
  (H.read W q L gg gc K c a.nm a.pl a.n h.1.1.1 hg h.1.1.2 hp.1 hp.2 hn.1 hn.2).mono fun _ _ ⟨h1, h2⟩ => ⟨h1, h.below H h2⟩
theorem ac6_rread (H : PartOK TB) (hg : Good L) (hl : L.length ≤ maxLen) (cap : Nat) (h : Ac6 TB w W A q L gg gc gx bl gr K c c' x g a) (hp : a.pl < 9223372036854775808) :
    Calls Try.prog 22 #[.slice A L.length cap, .pointer (some ⟨gr, 0, none⟩), .string a.nm, .int .i64 a.pl, .int .i64 a.n] W fun e w' => e = .returned (.tuple #[.string (prdS L c' a.nm a.pl a.n).1, .int .i64 ((prdS L c' a.nm a.pl a.n).2 : Int)]) ∧ Ac6 TB w w' A q L gg gc gx bl gr K c c' x g a :=
  (rpread_any A cap L gr gx _ 1 [x] c' a.nm a.pl a.n W h.2.2.1 hl hg hp h.1.rg h.1.2.1).mono fun _ _ ⟨h1, h2⟩ => ⟨h1, h.below H h2⟩
theorem ac6_write (H : PartOK TB) (hg : Good L) (hr : RdP w A L) (h : Ac6 TB w W A q L gg gc gx bl gr K c c' x g a) (hp : a.pl < 9223372036854775808 ∧ -9223372036854775808 ≤ a.pl) (ho : c.ops + a.s.size < 2305843009213693952) (o : gc < gg ∧ gg < gx ∧ gx < bl ∧ bl < gr) (o2 : gr < g ∧ w.heap.size ≤ gc) :
    Calls Try.prog 23 #[.pointer q, .pointer (some ⟨gg, 0, none⟩), .string a.nm, .int .i64 a.pl, .string a.s] W fun e w' => e = .returned (.int .i64 ((pwS L K c a.nm a.pl a.s).2 : Int)) ∧ Ac6 TB w w' A q L gg gc gx bl gr K (pwS L K c a.nm a.pl a.s).1 c' x g a :=
  (H.write W q L gg gc K c a.nm a.pl a.s h.1.1.1 hg h.1.1.2 hp.1 hp.2 ho).mono fun _ _ ⟨h1, h2, h3⟩ => ⟨h1, h.nextN H hr h2 h3 o o2⟩
theorem ac6_rwrite (H : PartOK TB) (hg : Good L) (hl : L.length ≤ maxLen) (hr : RdP w A L) (cap : Nat) (h : Ac6 TB w W A q L gg gc gx bl gr K c c' x g a) (hK : lkL [x] = K) (hp : a.pl < 9223372036854775808) (ho : c'.ops + a.s.size < 2305843009213693952) (hs : a.s.size ≤ 200) (o : gc < gg ∧ gg < gx ∧ gx < bl ∧ bl < gr) (o2 : gr < g ∧ w.heap.size ≤ gc) :
    Calls Try.prog 24 #[.slice A L.length cap, .pointer (some ⟨gr, 0, none⟩), .string a.nm, .int .i64 a.pl, .string a.s] W fun e w' => e = .returned (.int .i64 ((pwS L K c' a.nm a.pl a.s).2 : Int)) ∧ Ac6 TB w w' A q L gg gc gx bl gr K c (pwS L K c' a.nm a.pl a.s).1 x g a := by
  subst hK
  exact (rpwrite_any A cap L gr gx _ 1 [x] c' a.nm a.pl a.s W h.2.2.1 hl hg hp h.1.rg (by show 1 ≤ maxLen; decide) h.1.2.1 ho hs).mono fun _ _ ⟨h1, h2, h3⟩ => ⟨h1, h.nextX H hr h2 h3 o o2⟩
theorem ac6_erase (H : PartOK TB) (hg : Good L) (hr : RdP w A L) (h : Ac6 TB w W A q L gg gc gx bl gr K c c' x g a) (hp : a.pl < 9223372036854775808 ∧ -9223372036854775808 ≤ a.pl) (ho : c.ops < 2305843009213693952) (o : gc < gg ∧ gg < gx ∧ gx < bl ∧ bl < gr) (o2 : gr < g ∧ w.heap.size ≤ gc) :
    Calls Try.prog 25 #[.pointer q, .pointer (some ⟨gg, 0, none⟩), .string a.nm, .int .i64 a.pl] W fun e w' => e = .returned (.int .i64 ((peS L K c a.nm a.pl).2 : Int)) ∧ Ac6 TB w w' A q L gg gc gx bl gr K (peS L K c a.nm a.pl).1 c' x g a :=
  (H.erase W q L gg gc K c a.nm a.pl h.1.1.1 hg h.1.1.2 hp.1 hp.2 ho).mono fun _ _ ⟨h1, h2, h3⟩ => ⟨h1, h.nextN H hr h2 h3 o o2⟩
theorem ac6_rerase (H : PartOK TB) (hg : Good L) (hl : L.length ≤ maxLen) (hr : RdP w A L) (cap : Nat) (h : Ac6 TB w W A q L gg gc gx bl gr K c c' x g a) (hK : lkL [x] = K) (ho : c'.ops < 2305843009213693952) (o : gc < gg ∧ gg < gx ∧ gx < bl ∧ bl < gr) (o2 : gr < g ∧ w.heap.size ≤ gc) :
    Calls Try.prog 26 #[.slice A L.length cap, .pointer (some ⟨gr, 0, none⟩), .string a.nm, .int .i64 a.pl] W fun e w' => e = .returned (.int .i64 ((peS L K c' a.nm a.pl).2 : Int)) ∧ Ac6 TB w w' A q L gg gc gx bl gr K c (peS L K c' a.nm a.pl).1 x g a := by
  subst hK
  exact (rperase_any A cap L gr gx _ 1 [x] c' a.nm a.pl W h.2.2.1 hl hg h.1.rg (by show 1 ≤ maxLen; decide) h.1.2.1 ho).mono fun _ _ ⟨h1, h2, h3⟩ => ⟨h1, h.nextX H hr h2 h3 o o2⟩
end
end Go.Proofs.Ytidnbpehhpakcaa
