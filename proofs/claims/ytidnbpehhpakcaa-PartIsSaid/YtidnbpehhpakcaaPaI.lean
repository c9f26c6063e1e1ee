/- What package part must do, said over any form that its Table may have: the laws' walks lean on nothing else of it. And the acts of layer 6. No condition: a structure of contracts, proved elsewhere. -/
import Derived.Test.YtidnbpehhpakcaaPaC
import Derived.Test.YtidnbpehhpakcaaPaE
namespace Go.Proofs.Ytidnbpehhpakcaa
open Go.RowKit

/-- TB w q L: the pointer q is a Table of the parts L. -/
structure PartOK (TB : World → Option Addr → List PT → Prop) : Prop where
  below : ∀ (w w' : World) (q : Option Addr) (L : List PT), TB w q L → Below w.heap.size w w' → TB w' q L
  grown : ∀ (w w' : World) (q : Option Addr) (L : List PT) (gc : Nat) (c : St), TB w q L → RN w gc c → w.grownBy w' (some gc) → TB w' q L
  grownX : ∀ (w w' : World) (q : Option Addr) (L : List PT) (gx : Nat) (c : St), TB w q L → RR w gx c → w.grownBy w' (some gx) → TB w' q L
  new : ∀ (A : Option Addr) (cap : Nat) (L : List PT) (w : World), RdP w A L → Hid (L.length ≤ cap) → L.length ≤ 20 → (∀ k, k < L.length → (L.getD k pt0).fi < 9223372036854775808 ∧ -9223372036854775808 ≤ (L.getD k pt0).fi ∧ (L.getD k pt0).mn < 9223372036854775808 ∧ -9223372036854775808 ≤ (L.getD k pt0).mn) →
    Calls Try.prog 8 #[.slice A L.length cap] w fun e w' => ∃ q, e = .returned (.tuple #[.pointer q, .int .i64 (ckP L : Int)]) ∧ (ckP L ≠ 0 → q = none) ∧ (ckP L = 0 → TB w' q L) ∧ Below w.heap.size w w'
  allNil : ∀ (w : World), Calls Try.prog 10 #[.pointer none] w fun e w' => (∃ A cap, e = .returned (.slice A 0 cap)) ∧ Below w.heap.size w w'
  all : ∀ (w : World) (q : Option Addr) (L : List PT), TB w q L → Good L →
    Calls Try.prog 10 #[.pointer q] w fun e w' => ∃ A cap, e = .returned (.slice A L.length cap) ∧ RdP w' A L ∧ Below w.heap.size w w'
  find : ∀ (w : World) (q : Option Addr) (L : List PT) (name : ByteArray), TB w q L → Good L →
    Calls Try.prog 11 #[.pointer q, .string name] w fun e w' => e = .returned (.tuple #[ptV (fdV L name), .bool (fdB L name)]) ∧ Below w.heap.size w w'
  size : ∀ (w : World) (q : Option Addr) (L : List PT) (name : ByteArray), TB w q L → Good L →
    Calls Try.prog 13 #[.pointer q, .string name] w fun e w' => e = .returned (.int .i64 ((fdV L name).mn * 512)) ∧ Below w.heap.size w w'
  sectors : ∀ (w : World) (q : Option Addr) (L : List PT) (A : Option Addr) (cap : Nat) (N : List ByteArray), TB w q L → Good L → RdN w A N → N.length ≤ 20 →
    Calls Try.prog 16 #[.pointer q, .slice A N.length cap] w fun e w' => ∃ A' cap', e = .returned (.slice A' (secs L N).length cap') ∧ RdI w'.heap.size w' A' (secs L N) ∧ Below w.heap.size w w'
  read : ∀ (w : World) (q : Option Addr) (L : List PT) (gg gc : Nat) (K : List Bool) (c : St) (name : ByteArray) (a n : Int), TB w q L → Good L → Two w gg gc K c → a < 9223372036854775808 → -9223372036854775808 ≤ a → n < 9223372036854775808 → -9223372036854775808 ≤ n →
    Calls Try.prog 21 #[.pointer q, .pointer (some ⟨gg, 0, none⟩), .string name, .int .i64 a, .int .i64 n] w fun e w' => e = .returned (.tuple #[.string (prdS L c name a n).1, .int .i64 ((prdS L c name a n).2 : Int)]) ∧ Below w.heap.size w w'
  write : ∀ (w : World) (q : Option Addr) (L : List PT) (gg gc : Nat) (K : List Bool) (c : St) (name : ByteArray) (a : Int) (s : ByteArray), TB w q L → Good L → Two w gg gc K c → a < 9223372036854775808 → -9223372036854775808 ≤ a → c.ops + s.size < 2305843009213693952 →
    Calls Try.prog 23 #[.pointer q, .pointer (some ⟨gg, 0, none⟩), .string name, .int .i64 a, .string s] w fun e w' => e = .returned (.int .i64 ((pwS L K c name a s).2 : Int)) ∧ RN w' gc (pwS L K c name a s).1 ∧ w.grownBy w' (some gc)
  erase : ∀ (w : World) (q : Option Addr) (L : List PT) (gg gc : Nat) (K : List Bool) (c : St) (name : ByteArray) (x : Int), TB w q L → Good L → Two w gg gc K c → x < 9223372036854775808 → -9223372036854775808 ≤ x → c.ops < 2305843009213693952 →
    Calls Try.prog 25 #[.pointer q, .pointer (some ⟨gg, 0, none⟩), .string name, .int .i64 x] w fun e w' => e = .returned (.int .i64 ((peS L K c name x).2 : Int)) ∧ RN w' gc (peS L K c name x).1 ∧ w.grownBy w' (some gc)

/-- A table, a flash and its guard. -/
def Tri (TB : World → Option Addr → List PT → Prop) (w : World) (q : Option Addr) (L : List PT) (gg gc : Nat) (K : List Bool) (c : St) : Prop := TB w q L ∧ Two w gg gc K c
section
variable {TB : World → Option Addr → List PT → Prop} {w w' : World} {q : Option Addr} {L : List PT} {gg gc : Nat} {K : List Bool} {c c' : St}
theorem Tri.below (H : PartOK TB) (h : Tri TB w q L gg gc K c) (hb : Below w.heap.size w w') : Tri TB w' q L gg gc K c := ⟨H.below _ _ _ _ h.1 hb, h.2.below hb⟩
theorem Tri.next (H : PartOK TB) (h : Tri TB w q L gg gc K c) (hN : RN w' gc c') (hg : w.grownBy w' (some gc)) : Tri TB w' q L gg gc K c' := ⟨H.grown _ _ _ _ _ _ h.1 h.2.2.1 hg, h.2.next hN hg⟩
end

/-- An act of layer 6. -/
structure PA where
  kind : Int
  nm : ByteArray
  pl : Int
  n : Int
  s : ByteArray
def pa0 : PA := ⟨0, ⟨#[]⟩, 0, 0, ⟨#[]⟩⟩
def PaAt (w : World) (b o : Nat) (x : PA) : Prop :=
  w.cell? ⟨b, o, none⟩ = some (.int .i64 x.kind) ∧ w.cell? ⟨b, o + 1, none⟩ = some (.string x.nm) ∧ w.cell? ⟨b, o + 2, none⟩ = some (.int .i64 x.pl) ∧ w.cell? ⟨b, o + 3, none⟩ = some (.int .i64 x.n) ∧ w.cell? ⟨b, o + 4, none⟩ = some (.string x.s)
/-- The slice at A reads as the acts L. -/
def RdQ (w : World) (A : Option Addr) (L : List PA) : Prop := L = [] ∨ ∃ b off, A = some ⟨b, off, none⟩ ∧ ∀ k, k < L.length → PaAt w b (off + k * 5) (L.getD k pa0)
theorem RdQ.at_ {w : World} {A : Option Addr} {L : List PA} (h : RdQ w A L) {k : Nat} (hk : k < L.length) : ∃ b off x, A = some ⟨b, off, none⟩ ∧ PaAt w b (off + k * 5) x ∧ Hid (L.getD k pa0 = x) := by
  rcases h with rfl | ⟨b, off, rfl, hc⟩
  · simp at hk
  · exact ⟨b, off, _, rfl, hc k hk, rfl⟩
theorem RdQ.below {w w' : World} {A : Option Addr} {L : List PA} (h : RdQ w A L) (hb : Below w.heap.size w w') : RdQ w' A L := by
  rcases h with h | ⟨b, off, rfl, hc⟩
  · exact .inl h
  · refine .inr ⟨b, off, rfl, fun k hk => ?_⟩
    obtain ⟨h1, h2, h3, h4, h5⟩ := hc k hk
    have hlt : b < w.heap.size := World.block_lt_of_cell? w _ h1
    have e : ∀ j, w'.cell? ⟨b, j, none⟩ = w.cell? ⟨b, j, none⟩ := fun j => World.cell?_of_block (a := ⟨b, j, none⟩) (hb.block b hlt)
    exact ⟨by rw [e]; exact h1, by rw [e]; exact h2, by rw [e]; exact h3, by rw [e]; exact h4, by rw [e]; exact h5⟩
/-- Parts, and names, that the call has just laid. -/
theorem rdP_two (w : World) (x y : PT) : RdP (w.alloc (.cells #[.string x.nm, .int .i64 x.fi, .int .i64 x.mn, .string y.nm, .int .i64 y.fi, .int .i64 y.mn] 33)) (some ⟨w.heap.size, 0, none⟩) [x, y] := by
  have h := Arr.new w 33 #[.string x.nm, .int .i64 x.fi, .int .i64 x.mn, .string y.nm, .int .i64 y.fi, .int .i64 y.mn]
  refine .inr ⟨w.heap.size, 0, rfl, fun k hk => ?_⟩
  match k, hk with
  | 0, _ => exact ⟨h.cell 0, h.cell 1, h.cell 2⟩
  | 1, _ => exact ⟨h.cell 3, h.cell 4, h.cell 5⟩
theorem rdN_two (w : World) (x y : ByteArray) : RdN (w.alloc (.cells #[.string x, .string y] 9)) (some ⟨w.heap.size, 0, none⟩) [x, y] := by
  have h := Arr.new w 9 #[.string x, .string y]
  refine .inr ⟨w.heap.size, 0, rfl, fun k hk => ?_⟩
  match k, hk with
  | 0, _ => exact h.cell 0
  | 1, _ => exact h.cell 1
/-- A write of some bytes of one page to a flash without a fuse. -/
theorem wrS_free (c : St) (hon : c.on = true) (hf : c.fuse = none) (a : Nat) (s : ByteArray) (h0 : 0 < s.size) (h32 : s.size ≤ 32 - a % 32) (ha : a + s.size ≤ 24576) :
    wrS c a s = (⟨true, c.ops + 1, none, mapAt c.B a s.size (prF s)⟩, 0) := by
  unfold wrS
  rw [if_neg (by rw [hon]; decide), if_neg (by rw [thr_of (by omega)]; decide), Int.toNat_natCast]
  obtain ⟨n, hn⟩ : ∃ n, s.size = n + 1 := ⟨s.size - 1, by omega⟩
  have hm : min s.size (32 - a % 32) = s.size := by omega
  have he : s.extract 0 s.size = s := by
    apply ByteArray.ext
    rw [ByteArray.data_extract]
    show s.data.extract 0 s.data.size = s.data
    simp
  have hz : (s.extract s.size s.size).size = 0 := by rw [ByteArray.size_extract]; omega
  rw [show wrL s.size c a s = wrL (n + 1) c a s by rw [← hn]]
  unfold wrL
  rw [if_neg (by omega), hm, he, prS_free c hon hf a s h0 h32 ha, if_pos rfl, wrL_done _ _ _ _ hz]
end Go.Proofs.Ytidnbpehhpakcaa
