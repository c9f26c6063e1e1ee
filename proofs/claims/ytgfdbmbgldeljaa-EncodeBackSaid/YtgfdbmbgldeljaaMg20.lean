/- The document's Tree of layer 14. Conditions: strings of at most 2^40 bytes. -/
import Derived.Test.YtgfdbmbgldeljaaMg15
import Derived.Test.YtgfdbmbgldeljaaMg12
import Derived.Test.YtgfdbmbgldeljaaMg17
import Derived.Test.YtgfdbmbgldeljaaMg19
import Derived.Test.YtgfdbmbgldeljaaMg18
import Derived.Laws.ResultCell
import Derived.Test.YtgfdbmbgldeljaaMg11
namespace Go.Proofs.Ytgfdbmbgldeljaa
open Go.RowKit

theorem rdSp_row {w : World} {A : Option Addr} {L : List SP} {B g : Nat} {cs : Array Value} (h : RdSp w A L) (hf : SpFar B A L) (hg : g < B) : RdSp (w.setRow g cs) A L := by
  rcases h with h | ⟨b, off, rfl, hc⟩
  · exact .inl h
  · rcases hf with h | ⟨b', off', e, hb⟩
    · exact .inl h
    · injection e with e
      injection e with e1 e2
      subst e1
      refine .inr ⟨b, off, rfl, fun k hk => ?_⟩
      obtain ⟨h1, h2⟩ := hc k hk
      have hlt : b < w.heap.size := World.block_lt_of_cell? w _ h1
      have e : ∀ j, (w.setRow g cs).cell? ⟨b, j, none⟩ = w.cell? ⟨b, j, none⟩ := fun j => World.cell?_of_block (a := ⟨b, j, none⟩) ((moved_setRow w g cs).block b hlt (fun he => by omega))
      exact ⟨by rw [e]; exact h1, by rw [e]; exact h2⟩
/-- A tree's cells: the root, what is reserved, the processor. -/
abbrev dtC (nm : ByteArray) (v2 v3 r : Value) (b : Int) : Array Value := #[.string nm, v2, v3, r, .int .i64 b]
abbrev hdZ : Array Value := #[.int .i64 0, .int .i64 0, .int .i64 0, .int .i64 0, .int .i64 0, .int .i64 0, .int .i64 0]
abbrev dtZ : Array Value := #[.string ⟨#[]⟩, .slice none 0 0, .slice none 0 0, .slice none 0 0, .int .i64 0]
theorem infoDt (nm : ByteArray) (v2 v3 r : Value) (b : Int) : (Try.prog.info? 28).map (·.size) = some (dtC nm v2 v3 r b).size := by
  show _ = some 5
  kernel_rfl
theorem infoDz : (Try.prog.info? 28).map (·.size) = some dtZ.size := by
  show _ = some 5
  kernel_rfl
theorem dtZ_one : dtZ.all (·.oneCell') = true := by
  rw [Array.all_eq_true_iff_forall_mem]
  intro v hv
  simp at hv
  rcases hv with rfl | rfl | rfl | rfl | rfl <;> rfl
theorem dtC_one (nm : ByteArray) (v2 v3 r : Value) (b : Int) (h2 : v2.oneCell' = true) (h3 : v3.oneCell' = true) (h4 : r.oneCell' = true) : (dtC nm v2 v3 r b).all (·.oneCell') = true := by
  simp [h2, h3, h4]
  exact ⟨rfl, rfl⟩
/-- The tree T lies in memory. -/
def DtAt (w : World) (T : DT) (v2 v3 : Value) (A : Option Addr) : Prop := NdAt w (fun k => k < w.heap.size) T.rt v2 v3 ∧ RdSp w A T.rs
theorem DtAt.below {w w' : World} {T : DT} {v2 v3 : Value} {A : Option Addr} (h : DtAt w T v2 v3 A) (hb : Below w.heap.size w w') : DtAt w' T v2 v3 A :=
  ⟨(nd_below h.1 hb).mono fun _ hk => Nat.lt_of_lt_of_le hk hb.size, h.2.below hb⟩
theorem dtAt_zero (w : World) : DtAt w dt0 (.slice none 0 0) (.slice none 0 0) none := ⟨nd0_at _ _, .inl rfl⟩

theorem partR_le (s : ByteArray) (a b : Int) {n : Nat} (h : s.size ≤ n) : (partR s a b).1.size ≤ n := by
  unfold partR
  split
  · exact Nat.zero_le _
  · show (s.extract _ _).size ≤ n
    rw [ByteArray.size_extract]; omega

end Go.Proofs.Ytgfdbmbgldeljaa

/- The document's Same of layer 14, of two trees that read alike; what package decode must do, said over nothing of its code. Conditions: spans that fit. -/
namespace Go.Proofs.Ytgfdbmbgldeljaa
open Go.RowKit

/-- The cells of two trees side by side. -/
theorem dt_cells {w : World} {g : Nat} {nm : ByteArray} {v2 v3 r : Value} {b : Int} (h : Arr w g 28 (dtC nm v2 v3 r b)) :
    w.cell? ⟨g, 0, none⟩ = some (.string nm) ∧ w.cell? ⟨g, 1, none⟩ = some v2 ∧ w.cell? ⟨g, 2, none⟩ = some v3 ∧ w.cell? ⟨g, 3, none⟩ = some r ∧ w.cell? ⟨g, 4, none⟩ = some (.int .i64 b) :=
  ⟨h.cell 0, h.cell 1, h.cell 2, h.cell 3, h.cell 4⟩

set_option maxHeartbeats 1600000 in
set_option maxRecDepth 100000 in
theorem rSameT_any (T : DT) (v2 v3 u2 u3 : Value) (A A' : Option Addr) (cap cap' : Nat) (w : World) (hl : T.rs.length ≤ maxLen) (h : DtAt w T v2 v3 A) (h' : DtAt w T u2 u3 A') :
    Calls Try.prog 9 #[.agg (dtC T.rt.nm v2 v3 (.slice A T.rs.length cap) T.bo), .agg (dtC T.rt.nm u2 u3 (.slice A' T.rs.length cap') T.bo)] w fun e w' => e = .returned (.bool true) ∧ Below w.heap.size w w' := by
  obtain ⟨W1, hW1⟩ : ∃ W1, W1 = (w.alloc (.cells (dtC T.rt.nm v2 v3 (.slice A T.rs.length cap) T.bo) 28)).alloc (.cells (dtC T.rt.nm u2 u3 (.slice A' T.rs.length cap') T.bo) 28) := ⟨_, rfl⟩
  obtain ⟨g8, hg8⟩ : ∃ g8, g8 = w.heap.size := ⟨_, rfl⟩
  obtain ⟨g9, hg9⟩ : ∃ g9, g9 = w.heap.size + 1 := ⟨_, rfl⟩
  have hB1 : Below w.heap.size w W1 := by rw [hW1]; exact ((Below.refl _ _).alloc (Nat.le_refl _) _).alloc (by rw [sz_alloc]; omega) _
  have hA8 : Arr W1 g8 28 (dtC T.rt.nm v2 v3 (.slice A T.rs.length cap) T.bo) := by rw [hW1, hg8]; exact (Arr.new w _ _).alloc _
  have hA9 : Arr W1 g9 28 (dtC T.rt.nm u2 u3 (.slice A' T.rs.length cap') T.bo) := by rw [hW1, hg9]; exact Arr.new1 w _ _ _
  have HB1 := Lib.hid hB1
  have H1 := Lib.hid (h.below hB1)
  have H2 := Lib.hid (h'.below hB1)
  have HA8 := Lib.hid hA8
  have HA9 := Lib.hid hA9
  have HC : Hid (∀ W, DtAt W T v2 v3 A → DtAt W T u2 u3 A' → Calls Try.prog 20 #[.agg #[.string T.rt.nm, v2, v3], .agg #[.string T.rt.nm, u2, u3]] W fun e w' => e = .returned (.bool true) ∧ Below W.heap.size W w') := fun W h1 h2 => by
    have := rSame_any _ _ T.rt T.rt v2 v3 u2 u3 W h1.1 h2.1
    rwa [sameR_refl] at this
  have HP : Hid (∀ W, DtAt W T v2 v3 A → DtAt W T u2 u3 A' → Calls Try.prog 21 #[.slice A T.rs.length cap, .slice A' T.rs.length cap'] W fun e w' => e = .returned (.bool true) ∧ Below W.heap.size W w') := fun W h1 h2 => sameSp_any A A' cap cap' T.rs W hl h1.2 h2.2
  obtain ⟨k80, k81, k82, k83, k84⟩ := dt_cells hA8
  obtain ⟨k90, k91, k92, k93, k94⟩ := dt_cells hA9
  clear h h' hB1 hA8 hA9 hl
  generalize T.rs.length = n at *
  go_enter Try.func9, Try.ntmps9
  go_upto_region 1 with fail
  rw [← hW1, ← hg9, ← hg8]
  clear hW1 hg9 hg8
  go_wp2_with fail
  refine (HC.out _ H1.out H2.out).mono ?_
  rintro e w3 ⟨rfl, hb⟩
  clear k80 k81 k82 k83 k84 k90 k91 k92 k93 k94 HC
  have H1 := Lib.hid (H1.out.below hb)
  have H2 := Lib.hid (H2.out.below hb)
  have HA8 := Lib.hid (HA8.out.below hb HA8.out.lt)
  have HA9 := Lib.hid (HA9.out.below hb HA9.out.lt)
  have HB1 := Lib.hid (HB1.out.trans (hb.mono HB1.out.size))
  clear hb
  obtain ⟨-, -, -, k83, k84⟩ := dt_cells HA8.out
  obtain ⟨-, -, -, k93, k94⟩ := dt_cells HA9.out
  go_wp2_with fail
  refine (HP.out _ H1.out H2.out).mono ?_
  rintro e w4 ⟨rfl, hb⟩
  clear k83 k84 k93 k94 HP
  have HA8 := Lib.hid (HA8.out.below hb HA8.out.lt)
  have HA9 := Lib.hid (HA9.out.below hb HA9.out.lt)
  have HB1 := Lib.hid (HB1.out.trans (hb.mono HB1.out.size))
  clear hb
  obtain ⟨-, -, -, -, k84⟩ := dt_cells HA8.out
  obtain ⟨-, -, -, -, k94⟩ := dt_cells HA9.out
  go_wp2
  go_ret
  exact ⟨rfl, HB1.out⟩

/-- The contract of decode's Tree. -/
def DecTree : Prop := ∀ (s : ByteArray) (w : World), s.size ≤ 1099511627776 → Calls Try.prog 7 #[.string s] w fun e w' => ∃ v2 v3 A cap, e = .returned (.tuple #[.agg (dtC (treeD s.data.toList).1.rt.nm v2 v3 (.slice A (treeD s.data.toList).1.rs.length cap) (treeD s.data.toList).1.bo), .int .i64 ((treeD s.data.toList).2 : Int)]) ∧ DtAt w' (treeD s.data.toList).1 v2 v3 A ∧ Below w.heap.size w w'
/-- The contracts of package decode. -/
structure DecMust : Prop where
  tree : ∀ (s : ByteArray) (w : World), s.size ≤ 1099511627776 → Calls Try.prog 7 #[.string s] w fun e w' => ∃ v2 v3 A cap, e = .returned (.tuple #[.agg (dtC (treeD s.data.toList).1.rt.nm v2 v3 (.slice A (treeD s.data.toList).1.rs.length cap) (treeD s.data.toList).1.bo), .int .i64 ((treeD s.data.toList).2 : Int)]) ∧ DtAt w' (treeD s.data.toList).1 v2 v3 A ∧ Below w.heap.size w w'
  reserve : ∀ (s : ByteArray) (a : Int) (w : World), s.size ≤ 1099511627776 → -9223372036854775808 ≤ a ∧ a ≤ 9223372036854775807 → Calls Try.prog 18 #[.string s, .int .i64 a] w fun e w' => ∃ A cap, e = .returned (.tuple #[.slice A (resv s.data.toList a).1.length cap, .int .i64 ((resv s.data.toList a).2 : Int)]) ∧ RdSp w' A (resv s.data.toList a).1 ∧ Below w.heap.size w w'
  size : ∀ (s : ByteArray) (w : World), s.size ≤ 1099511627776 → Calls Try.prog 8 #[.string s] w fun e w' => e = .returned (.tuple #[.int .i64 (readH s.data.toList).1.tot, .int .i64 ((readH s.data.toList).2 : Int)]) ∧ Below w.heap.size w w'
end Go.Proofs.Ytgfdbmbgldeljaa

/- Has a tree few parts? (the document's Low of layer 14). Condition: spans that fit. -/
namespace Go.Proofs.Ytgfdbmbgldeljaa
open Go.RowKit

/-- Few parts: a low root, at most 20 spans. -/
def lowD (T : DT) : Bool := LowR T.rt && decide (T.rs.length ≤ 20)
theorem lowD_and {T : DT} (h : lowD T = true) : LowR T.rt = true ∧ T.rs.length ≤ 20 := by
  unfold lowD at h
  rw [Bool.and_eq_true] at h
  exact ⟨h.1, of_decide_eq_true h.2⟩

set_option maxHeartbeats 1600000 in
set_option maxRecDepth 100000 in
theorem rLowD_any (T : DT) (v2 v3 : Value) (A : Option Addr) (cap : Nat) (w : World) (h : DtAt w T v2 v3 A) :
    Calls Try.prog 4 #[.agg (dtC T.rt.nm v2 v3 (.slice A T.rs.length cap) T.bo)] w fun e w' => e = .returned (.bool (lowD T)) ∧ Below w.heap.size w w' := by
  obtain ⟨W1, hW1⟩ : ∃ W1, W1 = w.alloc (.cells (dtC T.rt.nm v2 v3 (.slice A T.rs.length cap) T.bo) 28) := ⟨_, rfl⟩
  obtain ⟨g8, hg8⟩ : ∃ g8, g8 = w.heap.size := ⟨_, rfl⟩
  have hB1 : Below w.heap.size w W1 := by rw [hW1]; exact (Below.refl _ _).alloc (Nat.le_refl _) _
  have hA8 : Arr W1 g8 28 (dtC T.rt.nm v2 v3 (.slice A T.rs.length cap) T.bo) := by rw [hW1, hg8]; exact Arr.new w _ _
  have HB1 := Lib.hid hB1
  have H1 := Lib.hid (h.below hB1)
  have HA8 := Lib.hid hA8
  have HC := Lib.hid (fun W h => rLow_any (fun k => k < W.heap.size) T.rt v2 v3 W h)
  have HE : Hid (lowD T = (LowR T.rt && decide (T.rs.length ≤ 20))) := rfl
  generalize lowD T = R at *
  obtain ⟨k80, k81, k82, k83, k84⟩ := dt_cells hA8
  clear h hB1 hA8
  cases hlo : LowR T.rt with
  | false =>
    rw [hlo] at HC HE
    clear hlo
    go_enter Try.func4, Try.ntmps4
    go_upto_region 1 with fail
    rw [← hW1, ← hg8]
    clear hW1 hg8
    go_wp2_with fail
    refine (HC.out _ H1.out.1).mono ?_
    rintro e w3 ⟨rfl, hb⟩
    have HB1 := Lib.hid (HB1.out.trans (hb.mono HB1.out.size))
    clear hb k80 k81 k82 k83 k84 HC
    go_wp2
    go_ret
    exact ⟨by rw [HE.out]; rfl, HB1.out⟩
  | true =>
    rw [hlo] at HC HE
    rw [Bool.true_and] at HE
    clear hlo
    go_enter Try.func4, Try.ntmps4
    go_upto_region 1 with fail
    rw [← hW1, ← hg8]
    clear hW1 hg8
    go_wp2_with fail
    refine (HC.out _ H1.out.1).mono ?_
    rintro e w3 ⟨rfl, hb⟩
    have HA8 := Lib.hid (HA8.out.below hb HA8.out.lt)
    have HB1 := Lib.hid (HB1.out.trans (hb.mono HB1.out.size))
    clear hb k80 k81 k82 k83 k84 HC
    obtain ⟨-, -, -, k83, -⟩ := dt_cells HA8.out
    by_cases h20 : T.rs.length ≤ 20
    · have d1 : decide ((T.rs.length : Int) ≤ 20) = true := decide_eq_true (by omega)
      go_wp2
      go_ret
      exact ⟨by rw [HE.out, decide_eq_true h20]; rfl, HB1.out⟩
    · have d1 : decide ((T.rs.length : Int) ≤ 20) = false := decide_eq_false (by omega)
      go_wp2
      go_ret
      exact ⟨by rw [HE.out, decide_eq_false h20]; rfl, HB1.out⟩
end Go.Proofs.Ytgfdbmbgldeljaa

/- What the document's count, Count and Fits of trees return. Conditions: a tree that is read, of at most 2^40 nodes and properties. -/
namespace Go.Proofs.Ytgfdbmbgldeljaa
open Go.RowKit

/-- The counts behind j kids. -/
def ctF (k : Nat) (n : ND) (j : Nat) : CT := (n.ks.take j).foldl (fun x y => ctAdd x (countR k y)) ⟨1, n.ps.length, 0⟩
theorem ctF_succ (k : Nat) (n : ND) {j : Nat} (hj : j < n.ks.length) : ctF k n (j + 1) = ctAdd (ctF k n j) (countR k (n.ks.getD j nd0)) := by
  unfold ctF
  rw [List.take_succ_eq_append_getElem hj, List.foldl_append]
  have e : n.ks.getD j nd0 = n.ks[j] := by rw [List.getD_eq_getElem?_getD, List.getElem?_eq_getElem hj]; rfl
  rw [e]; rfl
theorem countR_eq (k : Nat) (n : ND) : countR (k + 1) n = ⟨(ctF k n n.ks.length).a, (ctF k n n.ks.length).b, (ctF k n n.ks.length).c + 1⟩ := by
  unfold ctF; rw [List.take_length]; rfl
theorem ctF_mono (k : Nat) (n : ND) : ∀ (d j : Nat), j + d ≤ n.ks.length → (ctF k n j).a ≤ (ctF k n (j + d)).a ∧ (ctF k n j).b ≤ (ctF k n (j + d)).b ∧ (ctF k n j).c ≤ (ctF k n (j + d)).c
  | 0, _, _ => ⟨Nat.le_refl _, Nat.le_refl _, Nat.le_refl _⟩
  | d + 1, j, h => by
    have ih := ctF_mono k n d j (by omega)
    rw [show j + (d + 1) = j + d + 1 by omega, ctF_succ k n (show j + d < n.ks.length by omega)]
    simp only [ctAdd]
    omega
theorem ctF_le (k : Nat) (n : ND) {j : Nat} (hj : j ≤ n.ks.length) : (ctF k n j).a ≤ (countR (k + 1) n).a ∧ (ctF k n j).b ≤ (countR (k + 1) n).b ∧ (ctF k n j).c + 1 ≤ (countR (k + 1) n).c := by
  have h := ctF_mono k n (n.ks.length - j) j (by omega)
  rw [show j + (n.ks.length - j) = n.ks.length by omega] at h
  rw [countR_eq]
  simp only; omega
theorem kid_le (k : Nat) (n : ND) {j : Nat} (hj : j < n.ks.length) : (countR k (n.ks.getD j nd0)).a ≤ (countR (k + 1) n).a ∧ (countR k (n.ks.getD j nd0)).b ≤ (countR (k + 1) n).b ∧ (countR k (n.ks.getD j nd0)).c + 1 ≤ (countR (k + 1) n).c := by
  have h := ctF_le k n (j := j + 1) (by omega)
  rw [ctF_succ k n hj] at h
  simp only [ctAdd] at h
  omega
theorem depth_le : ∀ (k : Nat) (n : ND), (countR k n).c ≤ k
  | 0, _ => Nat.le_refl _
  | k + 1, n => by
    rw [countR_eq]
    show (ctF k n n.ks.length).c + 1 ≤ k + 1
    have : ∀ j, j ≤ n.ks.length → (ctF k n j).c ≤ k := by
      intro j
      induction j with
      | zero => intro _; exact Nat.zero_le _
      | succ j ih =>
        intro hj
        rw [ctF_succ k n (by omega)]
        have h1 := ih (by omega)
        have h2 := depth_le k (n.ks.getD j nd0)
        simp only [ctAdd]; omega
    have := this _ (Nat.le_refl _)
    omega
theorem props_le (k : Nat) (n : ND) : n.ps.length ≤ (countR (k + 1) n).b := (ctF_le k n (Nat.zero_le _)).2.1

/-- Three numbers as cells, and as a value. -/
def c3C (a b c : Nat) : Array Value := #[.int .i64 a, .int .i64 b, .int .i64 c]
def c3V (x : CT) : Value := .agg #[.int .i64 x.a, .int .i64 x.b, .int .i64 x.c]
theorem c3_one (a b c : Nat) : (c3C a b c).all (·.oneCell') = true := by
  rw [Array.all_eq_true_iff_forall_mem]
  intro v hv
  simp [c3C] at hv
  rcases hv with rfl | rfl | rfl <;> rfl

end Go.Proofs.Ytgfdbmbgldeljaa

/- Append of a slice of tokens to one's own. Conditions: at most 2^40 tokens. -/
namespace Go.Proofs.Ytgfdbmbgldeljaa
open Go.RowKit

theorem tkL_app (l r : List TK) : tkL (l ++ r) = tkL l ++ tkL r := by simp [tkL]
theorem tkL_one (l : List TK) : ∀ u ∈ tkL l, u.oneCell' = true := by
  intro u hu
  simp only [tkL, List.mem_flatMap] at hu
  obtain ⟨x, _, hx⟩ := hu
  simp [tkl] at hx
  rcases hx with rfl | rfl | rfl <;> rfl
theorem run_append_nothing {P : Program} (w : World) (t ty e : TypeId) (i : TypeInfo) (ht : P.underlying t = some (.slice e)) (hi : P.info? e = some i) (A : Option Addr) (n c : Nat) (hc : n ≤ c) :
    (Builtin.append_ #[t, t] ty #[.slice A n c, .slice none 0 0]).run P w = .ok (.slice A n c) w := by
  cases A with
  | none => simp [Builtin.append_, run_underlying ht, sizeOf, typeInfo, hi, Builtin.lenOf, Builtin.firstCells, hc]
  | some a => simp [Builtin.append_, run_underlying ht, sizeOf, typeInfo, hi, Builtin.lenOf, Builtin.firstCells, hc, storeCells]
/-- 'l = append(l, r...)', r a slice of tokens of some call's own. -/
theorem append_tks {ops : Array Oper} {rest : List Oper} {o : Oper} {a : Act} {Q : Exit → Act → World → Prop} {w : World} (hgd : o.guard = none) (s y : Operand)
    (ho : o.op = .call { callee := .builtin .append, args := #[s, y], argTypes := #[50, 50] })
    (v u : Value) (l r : List TK) (B : Nat) (hs : a.eval s = v) (hown : w.ownsRow 0 84 3 v l.length (tkL l)) (hx : a.eval y = u) (hr : w.ownsRow B 84 3 u r.length (tkL r))
    (hn : l.length + r.length ≤ 1099511627776)
    (h : ∀ v' w', w'.ownsRow 0 84 3 v' (l ++ r).length (tkL (l ++ r)) → Moved w w' (ownS v) (ownS v') → wpList Try.prog ops Q rest (a.put o.dst v') w') : wpList Try.prog ops Q (o :: rest) a w := by
  have hinf : ((Try.prog.info? 84).map fun i => (i.zero, i.size, i.bytes)) = some (some (tkV tk0), 3, 40) := by kernel_rfl
  obtain ⟨i, hi, he⟩ := Option.map_eq_some_iff.1 hinf
  simp only [Prod.mk.injEq] at he
  rcases hr.2 with ⟨hu, hz⟩ | ⟨b, cap, cur, hu, _, hg, hnc, _, hcs, hx2⟩
  · have hr0 : r = [] := List.length_eq_zero_iff.1 hz
    subst hr0
    obtain ⟨A, cap, hv, hcap⟩ : ∃ A cap, v = .slice A l.length cap ∧ l.length ≤ cap := by
      rcases hown.2 with ⟨h1, h2⟩ | ⟨b, cap, cur, h1, _, _, h2, _⟩
      · exact ⟨none, 0, by rw [h1, h2], by omega⟩
      · exact ⟨_, cap, h1, h2⟩
    refine wpList_plain hgd fun K hK => ?_
    have hrun := run_append_nothing (P := Try.prog) w 50 o.type 84 i Try.underlying50 hi A l.length cap hcap
    unfold Oper.wp execOp
    simp only [ho, resolve, invoke, builtin, Sem.run_bind, Sem.run_pure, Result.andThen_ok, List.map_toArray, List.map_cons, List.map_nil, hs, hx, hu, hv, hrun]
    refine hK _ _ (h _ w ?_ ?_)
    · rw [List.append_nil, ← hv]; exact hown
    · rw [← hv]; exact Moved.refl _ _
  · refine wpList_append_own_at _ hgd s y 50 ho 0 84 i (tkV tk0) 3 40 Try.underlying50 hi he.1 he.2.1 he.2.2 rfl (by decide) v l.length (tkL l) hs hown ⟨b, 0, none⟩ r.length cap (tkL r) (hx.trans hu) (tkL_length r) ?_ (tkL_one r) (by unfold maxLen; omega) (by omega) (Nat.zero_le _) ?_
    · intro j u' hj
      have e : (⟨b, 0, none⟩ : Addr).add j = ⟨b, j, none⟩ := by unfold Addr.add; split <;> simp_all
      have hlt : j < r.length * 3 := by
        have := (List.getElem?_eq_some_iff.1 hj).1
        rw [tkL_length] at this; exact this
      rw [e, cell_of_row w b _ cur _ (0, 0) hg, ← hj, ← hx2, List.getElem?_take_of_lt hlt, Array.getElem?_toList]
    · intro v' w' ho' hg' _ hl
      refine h v' w' (by rw [tkL_app, List.length_append]; exact ho') (Moved.of_grown hg' ?_)
      rcases hl with hl | hl
      · exact .inl hl
      · exact .inr ⟨_, hl, Nat.le_refl _⟩
end Go.Proofs.Ytgfdbmbgldeljaa
