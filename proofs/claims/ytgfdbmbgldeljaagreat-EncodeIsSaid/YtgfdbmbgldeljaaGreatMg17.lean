/- The document's Put and Part of layer 11. Conditions: numbers of 64 bits; strings of at most 2^40 bytes. -/
import Derived.Test.YtgfdbmbgldeljaaGreatMg16
import Derived.Deep.DeepCutAuto
import Derived.Deep.RegionHeld3
import Derived.Test.YtgfdbmbgldeljaaGreatMg4
import Derived.Test.YtgfdbmbgldeljaaGreatProg
import Derived.Test.YtgfdbmbgldeljaaGreatMg0
import Derived.Test.YtgfdbmbgldeljaaGreatMg8
import Derived.WalkKit
import Derived.Deep.Slices
import Derived.ChangeArms
import Derived.Test.YtgfdbmbgldeljaaGreatMg15
import Derived.Laws.OwnMore
import Derived.Deep.Onto
namespace Go.Proofs.YtgfdbmbgldeljaaGreat
open Go.RowKit

set_option maxHeartbeats 1600000 in
set_option maxRecDepth 100000 in
theorem rputH_any (h : HD) (w : World) (ht : in64 h.tot) :
    Calls Tryz.prog 23 #[.agg (hdC h)] w fun e w' => e = .returned (.tuple #[.string ⟨(putH h).1.toArray⟩, .int .i64 ((putH h).2 : Int)]) ∧ Below w.heap.size w w' := by
  obtain ⟨tt, st, sg, rv, bo, tx, sz⟩ := h
  show Calls _ _ #[.agg #[.int .i64 tt, .int .i64 st, .int .i64 sg, .int .i64 rv, .int .i64 bo, .int .i64 tx, .int .i64 sz]] _ _
  have HM : Hid (∀ W, Calls Tryz.prog 51 #[.agg #[.int .i64 tt, .int .i64 st, .int .i64 sg, .int .i64 rv, .int .i64 bo, .int .i64 tx, .int .i64 sz]] W fun e w' => e = .returned (.bool (mayH ⟨tt, st, sg, rv, bo, tx, sz⟩)) ∧ Below W.heap.size W w') := fun W => rmayH_any ⟨tt, st, sg, rv, bo, tx, sz⟩ W ht
  obtain ⟨g, hg⟩ : ∃ g, g = w.heap.size := ⟨_, rfl⟩
  have hA0 := Arr.new w 54 #[.int .i64 tt, .int .i64 st, .int .i64 sg, .int .i64 rv, .int .i64 bo, .int .i64 tx, .int .i64 sz]
  have HE : Hid (∀ W1, Below (g + 1) (w.alloc (.cells #[.int .i64 tt, .int .i64 st, .int .i64 sg, .int .i64 rv, .int .i64 bo, .int .i64 tx, .int .i64 sz] 54)) W1 → Arr W1 g 54 #[.int .i64 tt, .int .i64 st, .int .i64 sg, .int .i64 rv, .int .i64 bo, .int .i64 tx, .int .i64 sz] ∧ Below w.heap.size w W1) := by
    intro W1 h
    rw [hg] at h ⊢
    exact ⟨hA0.below h (Nat.lt_succ_self _), ((Below.refl _ _).alloc (Nat.le_refl _) _).trans (h.mono (Nat.le_succ _))⟩
  have HZ : Hid ((w.alloc (.cells #[.int .i64 tt, .int .i64 st, .int .i64 sg, .int .i64 rv, .int .i64 bo, .int .i64 tx, .int .i64 sz] 54)).heap.size = g + 1) := by rw [hg]; exact Array.size_push _
  clear hA0
  cases hm : mayH ⟨tt, st, sg, rv, bo, tx, sz⟩ with
  | false =>
    have HP : putH ⟨tt, st, sg, rv, bo, tx, sz⟩ = ([], 1) := by unfold putH; rw [hm]; rfl
    rw [HP]
    rw [hm] at HM
    clear hm HP
    go_enter Tryz.func23, Tryz.ntmps23
    go_wp2_with fail
    refine (HM.out _).mono ?_
    rintro e w1 ⟨rfl, hb1⟩
    rw [HZ.out] at hb1
    obtain ⟨hA1, hb2⟩ := HE.out _ hb1
    have HA := Lib.hid hA1
    have HB := Lib.hid hb2
    have c0 := hA1.cell 0
    have c1 := hA1.cell 1
    have c2 := hA1.cell 2
    have c3 := hA1.cell 3
    have c4 := hA1.cell 4
    have c5 := hA1.cell 5
    have c6 := hA1.cell 6
    simp only [List.getElem?_toArray, List.getElem?_cons_zero, List.getElem?_cons_succ] at c0 c1 c2 c3 c4 c5 c6
    rw [hg] at c0 c1 c2 c3 c4 c5 c6
    clear hA1 hb2 hb1 HE HZ HM
    go_wp2
    go_ret2
    exact ⟨rfl, HB.out⟩
  | true =>
    rw [hm] at HM
    by_cases hb : 16384 < tt
    · have HP : putH ⟨tt, st, sg, rv, bo, tx, sz⟩ = ([], 1) := by unfold putH; rw [hm]; exact if_neg (fun h => absurd h.2 (by show ¬ tt ≤ 16384; omega))
      rw [HP]
      clear hm HP
      go_enter Tryz.func23, Tryz.ntmps23
      go_wp2_with fail
      refine (HM.out _).mono ?_
      rintro e w1 ⟨rfl, hb1⟩
      rw [HZ.out] at hb1
      obtain ⟨hA1, hb2⟩ := HE.out _ hb1
      have HA := Lib.hid hA1
      have HB := Lib.hid hb2
      have c0 := hA1.cell 0
      have c1 := hA1.cell 1
      have c2 := hA1.cell 2
      have c3 := hA1.cell 3
      have c4 := hA1.cell 4
      have c5 := hA1.cell 5
      have c6 := hA1.cell 6
      simp only [List.getElem?_toArray, List.getElem?_cons_zero, List.getElem?_cons_succ] at c0 c1 c2 c3 c4 c5 c6
      rw [hg] at c0 c1 c2 c3 c4 c5 c6
      clear hA1 hb2 hb1 HE HZ HM
      go_wp2
      go_ret2
      exact ⟨rfl, HB.out⟩
    · have HP : putH ⟨tt, st, sg, rv, bo, tx, sz⟩ = (bigs (listH ⟨tt, st, sg, rv, bo, tx, sz⟩) 10, 0) := by unfold putH; rw [hm]; exact if_pos ⟨rfl, by show tt ≤ 16384; omega⟩
      have hb' : tt ≤ 16384 := by omega
      rw [HP]
      obtain ⟨BS, hBS⟩ : ∃ BS : ByteArray, BS = ⟨(bigs (listH ⟨tt, st, sg, rv, bo, tx, sz⟩) 10).toArray⟩ := ⟨_, rfl⟩
      show Calls _ _ _ _ (fun e w' => e = .returned (.tuple #[.string ⟨(bigs (listH ⟨tt, st, sg, rv, bo, tx, sz⟩) 10).toArray⟩, .int .i64 0]) ∧ _)
      rw [← hBS]
      clear hm HP hb
      have HBI : Hid (∀ W' b, Arr W' b 3 #[.int .i64 3490578157, .int .i64 tt, .int .i64 st, .int .i64 sg, .int .i64 rv, .int .i64 17, .int .i64 16, .int .i64 bo, .int .i64 tx, .int .i64 sz] → Calls Tryz.prog 28 #[.slice (some ⟨b, 0, none⟩) 10 10] W' fun e w' => e = .returned (.string BS) ∧ Below W'.heap.size W' w') := fun W' b hA => by
        rw [hBS]
        refine refbigs_any (some ⟨b, 0, none⟩) 10 (listH ⟨tt, st, sg, rv, bo, tx, sz⟩) W' (by show (10 : Nat) ≤ 1099511627776; decide) (.inr ⟨b, 0, rfl, hA.lt, fun j hj => ?_⟩)
        rw [Nat.zero_add, hA.cell]
        match j, hj with
        | 0, _ => rfl
        | 1, _ => rfl
        | 2, _ => rfl
        | 3, _ => rfl
        | 4, _ => rfl
        | 5, _ => rfl
        | 6, _ => rfl
        | 7, _ => rfl
        | 8, _ => rfl
        | 9, _ => rfl
      clear hBS
      go_enter Tryz.func23, Tryz.ntmps23
      go_wp2_with fail
      refine (HM.out _).mono ?_
      rintro e w1 ⟨rfl, hb1⟩
      rw [HZ.out] at hb1
      obtain ⟨hA1, hb2⟩ := HE.out _ hb1
      have HA := Lib.hid hA1
      have HB := Lib.hid hb2
      have c0 := hA1.cell 0
      have c1 := hA1.cell 1
      have c2 := hA1.cell 2
      have c3 := hA1.cell 3
      have c4 := hA1.cell 4
      have c5 := hA1.cell 5
      have c6 := hA1.cell 6
      simp only [List.getElem?_toArray, List.getElem?_cons_zero, List.getElem?_cons_succ] at c0 c1 c2 c3 c4 c5 c6
      rw [hg] at c0 c1 c2 c3 c4 c5 c6
      clear hA1 hb2 hb1 HE HZ HM
      go_wp2_with fail
      refine (HBI.out _ _ (Arr.new _ _ _)).mono ?_
      rintro e w2 ⟨rfl, hb3⟩
      have hz1 := HB.out.size
      have HB2 := Lib.hid ((HB.out.alloc hz1 _).trans (hb3.mono (by show _ ≤ (w1.heap.push _).size; rw [Array.size_push]; omega)))
      clear hb3
      go_wp2
      go_ret2
      exact ⟨rfl, HB2.out⟩
end Go.Proofs.YtgfdbmbgldeljaaGreat

/- The document's Read of layer 11. Conditions: strings of at most 2^40 bytes. -/
namespace Go.Proofs.YtgfdbmbgldeljaaGreat
open Go.RowKit

/-- Two results, the first a struct of the call's own. -/
theorem results_rowH {P : Program} {fn : Func} {p u : Tmp} {ty : TypeId} (h : fn.results = #[.cell p ty, .tmp u]) (tmps : Array Value) (w : World) (g : Nat) (t : TypeId) (cs : Array Value) (fr : Nat × Nat) (d : TypeDesc)
    (hp : tmps.getD p undef = .pointer (some ⟨g, 0, none⟩)) (hg : w.heap[g]? = some (.cells cs t fr))
    (hu : P.underlying ty = some d) (hd : (match d with | .struct _ | .array _ _ => true | _ => false) = true) (hi : (P.info? ty).map (·.size) = some cs.size) :
    (results fn tmps).run P w = .ok (.tuple #[.agg cs, tmps.getD u undef]) w := by
  have e : (results fn tmps).run P w = ((asAddr (tmps.getD p undef)).run P w).andThen fun a w₁ => ((loadVar ty a).run P w₁).andThen fun x w₂ => .ok (.tuple #[x, tmps.getD u undef]) w₂ := by
    simp only [results, h]
    simp [Sem.run_bind, Result.andThen]
  rw [e, hp]
  simp [asAddr, run_loadVar_row w g t ty cs fr d hg hu hd hi, Result.andThen]
theorem hdC_one (h : HD) : (hdC h).all (·.oneCell') = true := by
  rw [Array.all_eq_true_iff_forall_mem]
  intro v hv
  simp [hdC] at hv
  rcases hv with rfl | rfl | rfl | rfl | rfl | rfl | rfl <;> rfl
theorem infoH (h : HD) : (Tryz.prog.info? 54).map (·.size) = some (hdC h).size := by kernel_rfl
theorem ext0_list (s : ByteArray) (k : Nat) : (s.extract 0 k).data.toList = s.data.toList.take k := by
  have e : (s.extract 0 k).data = s.data.extract 0 k := ByteArray.data_extract
  rw [e, Array.toList_extract, List.extract_eq_take_drop]
  simp

end Go.Proofs.YtgfdbmbgldeljaaGreat

/- Trees in memory, and how a tree that came in is read. Conditions: values without a ring, as the row says. -/
namespace Go.Proofs.YtgfdbmbgldeljaaGreat
open Go.RowKit

/-- A property lies at a place. -/
def PrAt (w : World) (b o : Nat) (x : PR) : Prop := w.cell? ⟨b, o, none⟩ = some (.string x.nm) ∧ w.cell? ⟨b, o + 1, none⟩ = some (.string x.vl)
/-- The slice at A, in a block of G, reads as the properties l. -/
def RdPr (w : World) (G : Nat → Prop) (A : Option Addr) (l : List PR) : Prop := l = [] ∨ ∃ b off, A = some ⟨b, off, none⟩ ∧ G b ∧ ∀ k, k < l.length → PrAt w b (off + k * 2) (l.getD k pr0)
/-- A node's name, and two slices, are a tree, all in blocks of G. -/
inductive NdAt (w : World) (G : Nat → Prop) : ND → Value → Value → Prop
  | mk (nm : ByteArray) (ps : List PR) (ks : List ND) (A K : Option Addr) (pc kc : Nat) (p q : Nat → Value)
      (hp : RdPr w G A ps) (hpc : ps.length ≤ pc) (hpm : pc ≤ maxLen) (hkc : ks.length ≤ kc) (hkm : kc ≤ maxLen)
      (hK : ks = [] ∨ ∃ b off, K = some ⟨b, off, none⟩ ∧ G b ∧ ∀ i, i < ks.length → w.cell? ⟨b, off + i * 3, none⟩ = some (.string (ks.getD i nd0).nm) ∧ w.cell? ⟨b, off + i * 3 + 1, none⟩ = some (p i) ∧ w.cell? ⟨b, off + i * 3 + 2, none⟩ = some (q i))
      (hk : ∀ i, i < ks.length → NdAt w G (ks.getD i nd0) (p i) (q i)) : NdAt w G (.mk nm ps ks) (.slice A ps.length pc) (.slice K ks.length kc)

theorem cell_kept {w w' : World} {F F' : Nat → Prop} (hm : Moved w w' F F') {b o : Nat} (hF : ¬ F b) {v : Value} (h : w.cell? ⟨b, o, none⟩ = some v) : w'.cell? ⟨b, o, none⟩ = some v := by
  have hlt : b < w.heap.size := World.block_lt_of_cell? w _ h
  rw [World.cell?_of_block (a := ⟨b, o, none⟩) (hm.block b hlt hF)]
  exact h
theorem RdPr.kept {w w' : World} {G F F' : Nat → Prop} {A : Option Addr} {l : List PR} (h : RdPr w G A l) (hm : Moved w w' F F') (hd : ∀ k, G k → ¬ F k) : RdPr w' G A l := by
  rcases h with h | ⟨b, off, rfl, hg, hc⟩
  · exact .inl h
  · exact .inr ⟨b, off, rfl, hg, fun k hk => ⟨cell_kept hm (hd b hg) (hc k hk).1, cell_kept hm (hd b hg) (hc k hk).2⟩⟩
theorem NdAt.kept {w w' : World} {G F F' : Nat → Prop} {n : ND} {v2 v3 : Value} (h : NdAt w G n v2 v3) (hm : Moved w w' F F') (hd : ∀ k, G k → ¬ F k) : NdAt w' G n v2 v3 := by
  induction h with
  | mk nm ps ks A K pc kc p q hp hpc hpm hkc hkm hK hk ih =>
    refine .mk nm ps ks A K pc kc p q (hp.kept hm hd) hpc hpm hkc hkm ?_ ih
    rcases hK with h | ⟨b, off, rfl, hg, hc⟩
    · exact .inl h
    · exact .inr ⟨b, off, rfl, hg, fun i hi => ⟨cell_kept hm (hd b hg) (hc i hi).1, cell_kept hm (hd b hg) (hc i hi).2.1, cell_kept hm (hd b hg) (hc i hi).2.2⟩⟩
theorem nd_below {w w' : World} {G : Nat → Prop} {n : ND} {v2 v3 : Value} (h : NdAt w G n v2 v3) (hb : Below w.heap.size w w') : NdAt w' G n v2 v3 := h.kept (Moved.of_below hb (fun _ => False)) (fun _ _ h => h)
theorem RdPr.below {w w' : World} {G : Nat → Prop} {A : Option Addr} {l : List PR} (h : RdPr w G A l) (hb : Below w.heap.size w w') : RdPr w' G A l := h.kept (Moved.of_below hb (fun _ => False)) (fun _ _ h => h)
theorem RdPr.mono {w : World} {G G' : Nat → Prop} {A : Option Addr} {l : List PR} (h : RdPr w G A l) (hg : ∀ k, G k → G' k) : RdPr w G' A l := by
  rcases h with h | ⟨b, off, rfl, hb, hc⟩
  · exact .inl h
  · exact .inr ⟨b, off, rfl, hg b hb, hc⟩
theorem NdAt.mono {w : World} {G G' : Nat → Prop} {n : ND} {v2 v3 : Value} (h : NdAt w G n v2 v3) (hg : ∀ k, G k → G' k) : NdAt w G' n v2 v3 := by
  induction h with
  | mk nm ps ks A K pc kc p q hp hpc hpm hkc hkm hK hk ih =>
    refine .mk nm ps ks A K pc kc p q (hp.mono hg) hpc hpm hkc hkm ?_ ih
    rcases hK with h | ⟨b, off, rfl, hb, hc⟩
    · exact .inl h
    · exact .inr ⟨b, off, rfl, hg b hb, hc⟩
theorem nd_lt {w : World} {G : Nat → Prop} {n : ND} {v2 v3 : Value} (h : NdAt w G n v2 v3) : NdAt w (fun k => k < w.heap.size) n v2 v3 := by
  induction h with
  | mk nm ps ks A K pc kc p q hp hpc hpm hkc hkm hK hk ih =>
    refine .mk nm ps ks A K pc kc p q ?_ hpc hpm hkc hkm ?_ ih
    · rcases hp with h | ⟨b, off, rfl, hb, hc⟩
      · exact .inl h
      · by_cases h0 : ps.length = 0
        · exact .inl (List.length_eq_zero_iff.1 h0)
        · exact .inr ⟨b, off, rfl, World.block_lt_of_cell? w _ (hc 0 (by omega)).1, hc⟩
    · rcases hK with h | ⟨b, off, rfl, hb, hc⟩
      · exact .inl h
      · by_cases h0 : ks.length = 0
        · exact .inl (List.length_eq_zero_iff.1 h0)
        · exact .inr ⟨b, off, rfl, World.block_lt_of_cell? w _ (hc 0 (by omega)).1, hc⟩
/-- A tree stays where one block beyond it has changed. -/
theorem nd_grown {w w' : World} {B g : Nat} {n : ND} {v2 v3 : Value} (h : NdAt w (fun k => k < B) n v2 v3) (hg : w.grownBy w' (some g)) (hB : B ≤ g) : NdAt w' (fun k => k < B) n v2 v3 :=
  h.kept (F := fun k => k = g) (F' := fun k => k = g) (Moved.grown hg (fun k hk => by injection hk with hk; exact hk.symm) (fun k hk => .inl hk)) (fun k hk e => by subst e; omega)
/-- A property of a slice. -/
theorem RdPr.at_ {w : World} {G : Nat → Prop} {A : Option Addr} {l : List PR} (h : RdPr w G A l) {k : Nat} (hk : k < l.length) : ∃ b off x, A = some ⟨b, off, none⟩ ∧ PrAt w b (off + k * 2) x ∧ Hid (l.getD k pr0 = x) := by
  rcases h with rfl | ⟨b, off, rfl, _, hc⟩
  · simp at hk
  · exact ⟨b, off, _, rfl, hc k hk, rfl⟩
/-- A tree's two slices. -/
theorem nd_shape {w : World} {G : Nat → Prop} {n : ND} {v2 v3 : Value} (h : NdAt w G n v2 v3) : ∃ A K pc kc, v2 = .slice A n.ps.length pc ∧ v3 = .slice K n.ks.length kc ∧ n.ps.length ≤ pc ∧ pc ≤ maxLen ∧ n.ks.length ≤ kc ∧ kc ≤ maxLen := by
  cases h with
  | mk nm ps ks A K pc kc p q hp hpc hpm hkc hkm hK hk => exact ⟨A, K, pc, kc, rfl, rfl, hpc, hpm, hkc, hkm⟩
theorem nd_prop {w : World} {G : Nat → Prop} {n : ND} {A : Option Addr} {l pc : Nat} {v3 : Value} (h : NdAt w G n (.slice A l pc) v3) {k : Nat} (hk : k < n.ps.length) : ∃ b off x, A = some ⟨b, off, none⟩ ∧ PrAt w b (off + k * 2) x ∧ Hid (n.ps.getD k pr0 = x) := by
  cases h with
  | mk nm ps ks A K pc kc p q hp => exact hp.at_ hk
/-- A kid of a node. -/
theorem nd_kid {w : World} {G : Nat → Prop} {n : ND} {v2 : Value} {K : Option Addr} {l kc : Nat} (h : NdAt w G n v2 (.slice K l kc)) {k : Nat} (hk : k < n.ks.length) :
    ∃ b off x y z, K = some ⟨b, off, none⟩ ∧ w.cell? ⟨b, off + k * 3, none⟩ = some (.string x.nm) ∧ w.cell? ⟨b, off + k * 3 + 1, none⟩ = some y ∧ w.cell? ⟨b, off + k * 3 + 2, none⟩ = some z ∧ NdAt w G x y z ∧ Hid (n.ks.getD k nd0 = x) := by
  cases h with
  | mk nm ps ks A K pc kc p q hp hpc hpm hkc hkm hK hk' =>
    rcases hK with rfl | ⟨b, off, rfl, _, hc⟩
    · simp [ND.ks] at hk
    · obtain ⟨h1, h2, h3⟩ := hc k hk
      exact ⟨b, off, _, _, _, rfl, h1, h2, h3, hk' k hk, rfl⟩
theorem nd_props {w : World} {G : Nat → Prop} {n : ND} {A : Option Addr} {l pc : Nat} {v3 : Value} (h : NdAt w G n (.slice A l pc) v3) : RdPr w G A n.ps ∧ l = n.ps.length := by
  cases h with
  | mk nm ps ks A K pc kc p q hp => exact ⟨hp, rfl⟩
end Go.Proofs.YtgfdbmbgldeljaaGreat

/- The document's Builder of trees in memory: what is open, the rows that it owns, and what each change of it leaves. No condition: nothing of the program stands in it but types. -/
namespace Go.Proofs.YtgfdbmbgldeljaaGreat
open Go.RowKit

/-- A kid that is closed: its tree, its two slices. -/
structure KD where
  nd : ND
  y : Value
  z : Value
def kd0 : KD := ⟨nd0, .slice none 0 0, .slice none 0 0⟩
/-- A node that is open: its name, properties, kids, and the two slices that it owns. -/
structure ON where
  nm : ByteArray
  ps : List PR
  kl : List KD
  p : Value
  q : Value
def ON.nd (x : ON) : ND := .mk x.nm x.ps (x.kl.map KD.nd)
def prl (x : PR) : List Value := [.string x.nm, .string x.vl]
def prL (l : List PR) : List Value := l.flatMap prl
def kdl (x : KD) : List Value := [.string x.nd.nm, x.y, x.z]
def kdL (l : List KD) : List Value := l.flatMap kdl
def onl (x : ON) : List Value := [.string x.nm, x.p, x.q]
def onL (l : List ON) : List Value := l.flatMap onl
theorem flat_len {α : Type} {f : α → List Value} {n : Nat} (hf : ∀ x, (f x).length = n) (l : List α) : (l.flatMap f).length = l.length * n := by
  induction l with
  | nil => simp
  | cons x l ih => rw [List.flatMap_cons, List.length_append, ih, hf, List.length_cons, Nat.add_mul, Nat.one_mul, Nat.add_comm]
theorem flat_at {α : Type} {f : α → List Value} {n : Nat} (hf : ∀ x, (f x).length = n) (d : α) (l : List α) {k j : Nat} (hk : k < l.length) (hj : j < n) : (l.flatMap f)[k * n + j]? = (f (l.getD k d))[j]? := by
  induction l generalizing k with
  | nil => simp at hk
  | cons x l ih =>
    rw [List.flatMap_cons]
    match k, hk with
    | 0, _ => rw [Nat.zero_mul, Nat.zero_add, List.getElem?_append_left (by rw [hf]; exact hj)]; rfl
    | k + 1, hk =>
      rw [List.getElem?_append_right (by rw [hf, Nat.add_mul, Nat.one_mul]; omega), hf, show (k + 1) * n + j - n = k * n + j by rw [Nat.add_mul, Nat.one_mul]; omega]
      exact ih (by simpa using hk)
theorem prL_at (l : List PR) {k j : Nat} (hk : k < l.length) (hj : j < 2) : (prL l)[k * 2 + j]? = (prl (l.getD k pr0))[j]? := flat_at (f := prl) (fun _ => rfl) pr0 l hk hj
theorem kdL_at (l : List KD) {k j : Nat} (hk : k < l.length) (hj : j < 3) : (kdL l)[k * 3 + j]? = (kdl (l.getD k kd0))[j]? := flat_at (f := kdl) (fun _ => rfl) kd0 l hk hj
def on0 : ON := ⟨ByteArray.empty, [], [], .slice none 0 0, .slice none 0 0⟩
theorem onL_at (l : List ON) {k j : Nat} (hk : k < l.length) (hj : j < 3) : (onL l)[k * 3 + j]? = (onl (l.getD k on0))[j]? := flat_at (f := onl) (fun _ => rfl) on0 l hk hj
theorem onL_len (l : List ON) : (onL l).length = l.length * 3 := flat_len (f := onl) (fun _ => rfl) l
theorem prL_app (l r : List PR) : prL (l ++ r) = prL l ++ prL r := by simp [prL]
theorem kdL_app (l r : List KD) : kdL (l ++ r) = kdL l ++ kdL r := by simp [kdL]
theorem onL_app (l r : List ON) : onL (l ++ r) = onL l ++ onL r := by simp [onL]
/-- The same block is not both slices'. -/
def Apart (v v' : Value) : Prop := ∀ k, v.ownBlock = some k → v'.ownBlock ≠ some k
theorem Apart.symm {v v' : Value} (h : Apart v v') : Apart v' v := fun k h1 h2 => h k h2 h1
theorem Apart.of_none {v v' : Value} (h : v.ownBlock = none) : Apart v v' := fun k hk => by rw [h] at hk; cases hk
theorem apart_types {w : World} {base base' e e' size size' n n' : Nat} {v v' : Value} {xs xs' : List Value} (h : w.ownsRow base e size v n xs) (h' : w.ownsRow base' e' size' v' n' xs') (hne : e ≠ e') : Apart v v' := fun k hk hk' => by
  rcases ow_ow h h' hne with h1 | h1
  · rw [h1] at hk; cases hk
  · exact h1 (hk.trans hk'.symm)
/-- A row that has changed, or is new, is apart from what the old one was apart from. -/
theorem Apart.moved {w : World} {u u' v : Value} (h : Apart u v) (hF : ∀ k, ownS u' k → ownS u k ∨ w.heap.size ≤ k) (hv : ∀ k, v.ownBlock = some k → k < w.heap.size) : Apart u' v := fun k hk hk' => by
  rcases hF k hk with h1 | h1
  · exact h k h1 hk'
  · have := hv k hk'; omega
/-- All that may change. -/
def fpO (g : Nat) (vo : Value) (L : List ON) (k : Nat) : Prop := k = g ∨ ownS vo k ∨ ∃ x ∈ L, ownS x.p k ∨ ownS x.q k
/-- An open node in memory. -/
structure OnAt (w : World) (B : Nat) (F : Nat → Prop) (x : ON) : Prop where
  p : w.ownsRow B 39 2 x.p x.ps.length (prL x.ps)
  q : w.ownsRow B 25 3 x.q x.kl.length (kdL x.kl)
  k : ∀ c ∈ x.kl, NdAt w (fun k => B ≤ k ∧ ¬ F k) c.nd c.y c.z
/-- A Builder's cells. -/
def bdC (vo : Value) (b : BD) (r2 r3 : Value) : Array Value := #[vo, .bool b.dn, .string b.rt.nm, r2, r3, .int .i64 (b.ns : Int), .int .i64 (b.pn : Int)]
theorem tyPN : 39 ≠ 25 := by decide
/-- A tree lies in blocks that are there. -/
theorem nd_and {w : World} {G : Nat → Prop} {n : ND} {v2 v3 : Value} (h : NdAt w G n v2 v3) : NdAt w (fun k => G k ∧ k < w.heap.size) n v2 v3 := by
  induction h with
  | mk nm ps ks A K pc kc p q hp hpc hpm hkc hkm hK hk ih =>
    refine .mk nm ps ks A K pc kc p q ?_ hpc hpm hkc hkm ?_ ih
    · rcases hp with h | ⟨b, off, rfl, hb, hc⟩
      · exact .inl h
      · by_cases h0 : ps.length = 0
        · exact .inl (List.length_eq_zero_iff.1 h0)
        · exact .inr ⟨b, off, rfl, ⟨hb, World.block_lt_of_cell? w _ (hc 0 (by omega)).1⟩, hc⟩
    · rcases hK with h | ⟨b, off, rfl, hb, hc⟩
      · exact .inl h
      · by_cases h0 : ks.length = 0
        · exact .inl (List.length_eq_zero_iff.1 h0)
        · exact .inr ⟨b, off, rfl, ⟨hb, World.block_lt_of_cell? w _ (hc 0 (by omega)).1⟩, hc⟩
/-- A closed tree beside what changes stays, and stays beside what may change next. -/
theorem nd_moved {w w' : World} {B : Nat} {F F' : Nat → Prop} {n : ND} {v2 v3 : Value} (h : NdAt w (fun k => B ≤ k ∧ ¬ F k) n v2 v3) (hm : Moved w w' F F') : NdAt w' (fun k => B ≤ k ∧ ¬ F' k) n v2 v3 :=
  ((nd_and h).kept hm (fun _ hk => hk.1.2)).mono fun k hk => ⟨hk.1.1, fun hf => by
    rcases hm.foot k hf with h1 | h1
    · exact hk.1.2 h1
    · have := hk.2; omega⟩
theorem ow_moved {w w' : World} {F F' : Nat → Prop} {base e size n : Nat} {v : Value} {xs : List Value} (h : w.ownsRow base e size v n xs) (hm : Moved w w' F F') (hn : ∀ k, v.ownBlock = some k → ¬ F k) : w'.ownsRow base e size v n xs := hm.row h hn
section
variable {w w' : World} {B g : Nat} {b b' : BD} {vo vo' r2 r3 : Value} {L : List ON}
theorem fp_g {L : List ON} {vo : Value} {g : Nat} : fpO g vo L g := .inl rfl
end
end Go.Proofs.YtgfdbmbgldeljaaGreat
