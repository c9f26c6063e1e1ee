/- All that the law RamPlays holds in memory: a Ram, the document's memory beside it, and blocks that stay as they are; what each call makes of them. No condition. -/
import Derived.Test.YtecfdcibjmakeaaRaW
import Derived.Test.YtecfdcibjmakeaaRaA
namespace Go.Proofs.Ytecfdcibjmakeaa
open Go.RowKit

/-- The blocks of N are the same in both worlds. -/
def SameB (N : Nat → Prop) (W W' : World) : Prop := ∀ k, N k → W'.heap[k]? = W.heap[k]?
theorem SameB.trans {N : Nat → Prop} {W W' W'' : World} (h : SameB N W W') (h' : SameB N W' W'') : SameB N W W'' := fun k hk => (h' k hk).trans (h k hk)
theorem SameB.cell {N : Nat → Prop} {W W' : World} (h : SameB N W W') {k j : Nat} (hk : N k) {v : Value} (hc : W.cell? ⟨k, j, none⟩ = some v) : W'.cell? ⟨k, j, none⟩ = some v :=
  (World.cell?_of_block (a := ⟨k, j, none⟩) (h k hk)).trans hc
/-- A Ram in which Rm is loaded, the document's memory in which Rd is, and blocks N that are of neither. -/
structure Pl7 (w W : World) (q : Option Addr) (gx : Nat) (vL vS : Value) (F N : Nat → Prop) (Rm Rd : List LD) : Prop where
  rb : RMB W q F Rm
  okm : RamOk Rm
  dr : DR W gx vL vS Rd
  okd : RamOk Rd
  sep : ∀ k, F k → ¬ fpD gx vL vS k
  fix : ∀ k, N k → k < W.heap.size ∧ ¬ F k ∧ ¬ fpD gx vL vS k
  newF : ∀ k, F k → w.heap.size ≤ k
  newD : ∀ k, fpD gx vL vS k → w.heap.size ≤ k
  bel : Below w.heap.size w W
theorem dr_kept {w w' : World} {g : Nat} {vL vS : Value} {R : List LD} {G G' : Nat → Prop} (h : DR w g vL vS R) (hm : Moved w w' G G') (hn : ∀ k, fpD g vL vS k → ¬ G k) : DR w' g vL vS R := by
  refine ⟨hm.arr h.1 (hn g (.inl rfl)), ⟨h.2.1.1, ?_⟩, ⟨h.2.2.1, ?_⟩⟩
  · rcases h.2.1.2 with h4 | ⟨b, cap, cur, rfl, hb, hg, rest⟩
    · exact .inl h4
    · exact .inr ⟨b, cap, cur, rfl, hb, (hm.block b (Array.getElem?_eq_some_iff.1 hg).1 (hn b (.inr (.inl rfl)))).trans hg, rest⟩
  · rcases h.2.2.2 with h4 | ⟨b, cap, cur, rfl, hb, hg, rest⟩
    · exact .inl h4
    · exact .inr ⟨b, cap, cur, rfl, hb, (hm.block b (Array.getElem?_eq_some_iff.1 hg).1 (hn b (.inr (.inr rfl)))).trans hg, rest⟩
section
variable {w W W' : World} {q : Option Addr} {gx : Nat} {vL vS : Value} {F N : Nat → Prop} {Rm Rd : List LD}
theorem Pl7.below (h : Pl7 w W q gx vL vS F N Rm Rd) (hb : Below W.heap.size W W') : Pl7 w W' q gx vL vS F N Rm Rd ∧ SameB N W W' :=
  ⟨⟨ram_must.below _ _ _ _ _ h.rb hb, h.okm, h.dr.below hb, h.okd, h.sep, fun k hk => ⟨Nat.lt_of_lt_of_le (h.fix k hk).1 hb.size, (h.fix k hk).2⟩, h.newF, h.newD, h.bel.trans (hb.mono h.bel.size)⟩, fun k hk => hb.block k (h.fix k hk).1⟩
theorem Pl7.fewer (h : Pl7 w W q gx vL vS F N Rm Rd) {N' : Nat → Prop} (hn : ∀ k, N' k → N k) : Pl7 w W q gx vL vS F N' Rm Rd :=
  ⟨h.rb, h.okm, h.dr, h.okd, h.sep, fun k hk => h.fix k (hn k hk), h.newF, h.newD, h.bel⟩
/-- One more block that stays. -/
theorem Pl7.more (h : Pl7 w W q gx vL vS F N Rm Rd) (o : Obj) : Pl7 w (W.alloc o) q gx vL vS F (fun k => N k ∨ k = W.heap.size) Rm Rd ∧ SameB N W (W.alloc o) := by
  obtain ⟨h1, h2⟩ := h.below ((Below.refl W.heap.size W).alloc (Nat.le_refl _) o)
  refine ⟨⟨h1.rb, h1.okm, h1.dr, h1.okd, h1.sep, fun k hk => ?_, h1.newF, h1.newD, h1.bel⟩, h2⟩
  rcases hk with hk | rfl
  · exact h1.fix k hk
  · refine ⟨by rw [sz_alloc]; omega, fun hf => ?_, fun hf => ?_⟩
    · have := ram_must.lt _ _ _ _ _ h.rb hf; omega
    · have := h.dr.lt hf; omega
/-- The Ram has moved. -/
theorem Pl7.ram (h : Pl7 w W q gx vL vS F N Rm Rd) {F' : Nat → Prop} {Rm' : List LD} (hr : RMB W' q F' Rm') (hok : RamOk Rm') (hm : Moved W W' F F') : Pl7 w W' q gx vL vS F' N Rm' Rd ∧ SameB N W W' := by
  refine ⟨⟨hr, hok, dr_kept h.dr hm (fun k hk hf => h.sep k hf hk), h.okd, fun k hk hd => ?_, fun k hk => ⟨Nat.lt_of_lt_of_le (h.fix k hk).1 hm.size, fun hf => ?_, (h.fix k hk).2.2⟩, fun k hk => ?_, h.newD, h.bel.trans (hm.below h.newF h.bel.size)⟩, fun k hk => hm.block k (h.fix k hk).1 (h.fix k hk).2.1⟩
  · rcases hm.foot k hk with h4 | h4
    · exact h.sep k h4 hd
    · have := h.dr.lt hd; omega
  · rcases hm.foot k hf with h4 | h4
    · exact (h.fix k hk).2.1 h4
    · have := (h.fix k hk).1; omega
  · rcases hm.foot k hk with h4 | h4
    · exact h.newF k h4
    · exact Nat.le_trans h.bel.size h4
/-- The document's memory has moved. -/
theorem Pl7.doc (h : Pl7 w W q gx vL vS F N Rm Rd) {vL' vS' : Value} {Rd' : List LD} (hr : DR W' gx vL' vS' Rd') (hok : RamOk Rd') (hm : Moved W W' (fpD gx vL vS) (fpD gx vL' vS')) : Pl7 w W' q gx vL' vS' F N Rm Rd' ∧ SameB N W W' := by
  refine ⟨⟨ram_must.kept _ _ _ _ _ _ _ h.rb hm (fun k hk => h.sep k hk), h.okm, hr, hok, fun k hk hd => ?_, fun k hk => ⟨Nat.lt_of_lt_of_le (h.fix k hk).1 hm.size, (h.fix k hk).2.1, fun hd => ?_⟩, h.newF, fun k hk => ?_, h.bel.trans (hm.below h.newD h.bel.size)⟩, fun k hk => hm.block k (h.fix k hk).1 (h.fix k hk).2.2⟩
  · rcases hm.foot k hd with h4 | h4
    · exact h.sep k hk h4
    · have := ram_must.lt _ _ _ _ _ h.rb hk; omega
  · rcases hm.foot k hd with h4 | h4
    · exact (h.fix k hk).2.2 h4
    · have := (h.fix k hk).1; omega
  · rcases hm.foot k hk with h4 | h4
    · exact h.newD k h4
    · exact Nat.le_trans h.bel.size h4
theorem pl7_load (h : Pl7 w W q gx vL vS F N Rm Rd) (hR : Rm.length ≤ 100) (a : Int) (s : ByteArray) (h1 : a < 9223372036854775808) (h2 : -9223372036854775808 ≤ a) (h3 : s.size ≤ 200) :
    Calls Try.prog 7 #[.pointer q, .int .i64 a, .string s] W fun e w' => e = .returned (.int .i64 ((ldR Rm a s).2 : Int)) ∧ ∃ F', Pl7 w w' q gx vL vS F' N (ldR Rm a s).1 Rd ∧ SameB N W w' :=
  (ram_must.load W q F Rm a s h.rb h.okm hR h1 h2 h3).mono fun _ _ ⟨h4, F', h5, h6⟩ => ⟨h4, F', h.ram h5 (ldR_ok h.okm a s) h6⟩
theorem pl7_rload (h : Pl7 w W q gx vL vS F N Rm Rd) (hR : Rd.length ≤ 100) (a : Int) (s : ByteArray) :
    Calls Try.prog 8 #[.pointer (some ⟨gx, 0, none⟩), .int .i64 a, .string s] W fun e w' => e = .returned (.int .i64 ((ldR Rd a s).2 : Int)) ∧ ∃ vL' vS', Pl7 w w' q gx vL' vS' F N Rm (ldR Rd a s).1 ∧ SameB N W w' :=
  (rload_any gx vL vS Rd a s W h.dr h.okd hR).mono fun _ _ ⟨h4, vL', vS', h5, h6⟩ => ⟨h4, vL', vS', h.doc h5 (ldR_ok h.okd a s) h6⟩
theorem pl7_clear (h : Pl7 w W q gx vL vS F N Rm Rd) :
    Calls Try.prog 11 #[.pointer q] W fun e w' => e = .returned (.tuple #[]) ∧ ∃ F', Pl7 w w' q gx vL vS F' N [] Rd ∧ SameB N W w' :=
  (mclear_must W q F Rm h.rb).mono fun _ _ ⟨h4, F', h5, h6⟩ => ⟨h4, F', h.ram h5 ramOk_nil h6⟩
/-- A new memory of the document's. -/
theorem Pl7.fresh (h : Pl7 w W q gx vL vS F N Rm Rd) : Pl7 w (W.alloc (.cells #[.slice none 0 0, .slice none 0 0] 30)) q W.heap.size (.slice none 0 0) (.slice none 0 0) F N Rm [] ∧ SameB N W (W.alloc (.cells #[.slice none 0 0, .slice none 0 0] 30)) := by
  have hb := (Below.refl W.heap.size W).alloc (Nat.le_refl _) (.cells #[.slice none 0 0, .slice none 0 0] 30)
  obtain ⟨h1, h2⟩ := h.below hb
  refine ⟨⟨h1.rb, h1.okm, ⟨Arr.new _ _ _, World.ownsRow_nil _ _ _ _, World.ownsRow_nil _ _ _ _⟩, ramOk_nil, fun k hk hd => ?_, fun k hk => ⟨(h1.fix k hk).1, (h1.fix k hk).2.1, fun hd => ?_⟩, h1.newF, fun k hk => ?_, h1.bel⟩, h2⟩
  · rcases hd with rfl | hd | hd
    · have := ram_must.lt _ _ _ _ _ h.rb hk; omega
    · cases hd
    · cases hd
  · rcases hd with rfl | hd | hd
    · have := (h.fix _ hk).1; omega
    · cases hd
    · cases hd
  · rcases hk with rfl | hk | hk
    · exact h.bel.size
    · cases hk
    · cases hk
end
/-- A new Ram, and a new memory of the document's. -/
theorem pl7_first {w W : World} {q : Option Addr} {F : Nat → Prop} (hr : RMB W q F []) (hF : ∀ k, F k → w.heap.size ≤ k) (hb : Below w.heap.size w W) :
    Pl7 w (W.alloc (.cells #[.slice none 0 0, .slice none 0 0] 30)) q W.heap.size (.slice none 0 0) (.slice none 0 0) F (fun _ => False) [] [] := by
  have hb1 := (Below.refl W.heap.size W).alloc (Nat.le_refl _) (.cells #[.slice none 0 0, .slice none 0 0] 30)
  refine ⟨ram_must.below _ _ _ _ _ hr hb1, ramOk_nil, ⟨Arr.new _ _ _, World.ownsRow_nil _ _ _ _, World.ownsRow_nil _ _ _ _⟩, ramOk_nil, fun k hk hd => ?_, (fun k hk => hk.elim), hF, fun k hk => ?_, hb.trans (hb1.mono hb.size)⟩
  · rcases hd with rfl | hd | hd
    · have := ram_must.lt _ _ _ _ _ hr hk; omega
    · cases hd
    · cases hd
  · rcases hk with rfl | hk | hk
    · exact hb.size
    · cases hk
    · cases hk
end Go.Proofs.Ytecfdcibjmakeaa
