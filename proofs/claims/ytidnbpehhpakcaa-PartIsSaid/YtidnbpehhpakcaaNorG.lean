/- What nor's New and Load do. No condition. -/
import Derived.Test.YtidnbpehhpakcaaNorF
namespace Go.Proofs.Ytidnbpehhpakcaa
open Go.RowKit

theorem zeroChip (w : World) : (zeroValue 75).run Try.prog w = .ok (.agg chip0) w := by
  simp only [zeroValue, Sem.run_bind, Try.typeInfo75, Result.andThen_ok, chip0_zero, Sem.run_pure]
/-- The cells of a new Chip, before its bytes are set. -/
def chip1 : Array Value := chipC true true 0 (-1) ⟨#[]⟩ (List.replicate 24576 0)
theorem put0 (a b : Bool) (o l : Int) (t : ByteArray) (B : List UInt8) (m : Bool) : (chipC a b o l t B).setIfInBounds 0 (.bool m) = chipC m b o l t B := by unfold chipC; apply Array.ext'; simp
theorem put1 (a b : Bool) (o l : Int) (t : ByteArray) (B : List UInt8) (m : Bool) : (chipC a b o l t B).setIfInBounds 1 (.bool m) = chipC a m o l t B := by unfold chipC; apply Array.ext'; simp
theorem put3 (a b : Bool) (o l : Int) (t : ByteArray) (B : List UInt8) (m : Int) : (chipC a b o l t B).setIfInBounds 3 (.int .i64 m) = chipC a b o m t B := by unfold chipC; apply Array.ext'; simp
theorem rep_set (k n : Nat) (h : k < n) : (List.replicate k (255 : UInt8) ++ List.replicate (n - k) 0).set k 255 = List.replicate (k + 1) 255 ++ List.replicate (n - (k + 1)) 0 := by
  rw [List.set_append_right _ _ (by rw [List.length_replicate]; exact Nat.le_refl _), List.length_replicate, Nat.sub_self, show n - k = n - (k + 1) + 1 by omega, List.replicate_succ, List.set_cons_zero, List.replicate_succ' (n := k), List.append_assoc]
  rfl
/-- A new flash. -/
def st0 : St := ⟨true, 0, none, List.replicate 24576 255⟩
theorem st0_ok : st0.ok := ⟨List.length_replicate, fun e => (nomatch e), fun _ _ e => (nomatch e)⟩

set_option maxHeartbeats 800000 in
set_option maxRecDepth 100000 in
theorem new_any (w : World) : Calls Try.prog 18 #[] w fun e w' => ∃ g, e = .returned (.pointer (some ⟨g, 0, none⟩)) ∧ w.heap.size ≤ g ∧ RN w' g st0 ∧ Below w.heap.size w w' := by
  have HA : Hid (∀ c, Arr (w.alloc (.cells c 75)) w.heap.size 75 c) := fun c => Arr.new w _ c
  have HB : Hid (∀ o, Below w.heap.size w (w.alloc o)) := fun o => (Below.refl _ _).alloc (Nat.le_refl _) o
  have HC : Hid (chip1 = chipC true true 0 (-1) ⟨#[]⟩ (List.replicate 0 255 ++ List.replicate (24576 - 0) 0)) := rfl
  have h0 : chip0.size = 24581 := by unfold chip0; rw [chipC_size, List.length_replicate]
  have e1 := put0 false false 0 0 ⟨#[]⟩ (List.replicate 24576 0) true
  have e2 := put1 true false 0 0 ⟨#[]⟩ (List.replicate 24576 0) true
  have e3 := put3 true true 0 0 ⟨#[]⟩ (List.replicate 24576 0) (-1)
  rw [show chipC false false 0 0 ⟨#[]⟩ (List.replicate 24576 0) = chip0 from rfl] at e1
  rw [show chipC true true 0 (-1) ⟨#[]⟩ (List.replicate 24576 0) = chip1 from rfl] at e3
  have hzz := zeroChip
  generalize chip0 = c0 at *
  generalize chipC true false 0 0 ⟨#[]⟩ (List.replicate 24576 0) = c1 at *
  generalize chipC true true 0 0 ⟨#[]⟩ (List.replicate 24576 0) = c2 at *
  generalize chip1 = c3 at *
  have hne : ¬ (c0 = #[]) := fun e => by rw [e] at h0; cases h0
  go_enter Try.func18, Try.ntmps18
  go_wp2
  obtain ⟨g, hg⟩ : ∃ g, w.heap.size = g := ⟨_, rfl⟩
  rw [hg] at HA HB
  simp only [hg]
  have hA0 : Arr (w.alloc (.cells c3 75)) g 75 (chipC true true 0 (-1) ⟨#[]⟩ (List.replicate 0 255 ++ List.replicate (24576 - 0) 0)) := by rw [← HC.out]; exact HA.out c3
  have HA0 := Lib.hid hA0
  have HB0 := Lib.hid (HB.out (.cells c3 75))
  clear hA0 HA HB HC h0 e1 e2 e3 hzz hne
  go_loopw [5] (fun i wr => ∃ k : Nat, k ≤ 24576 ∧ i = .int .i64 k ∧ Arr wr g 75 (chipC true true 0 (-1) ⟨#[]⟩ (List.replicate k 255 ++ List.replicate (24576 - k) 0)) ∧ Below g w wr) (fun i _ => 24576 - (intOf i).toNat)
  case atStart => exact ⟨0, Nat.zero_le _, rfl, HA0.out, HB0.out⟩
  case round =>
    clear HA0 HB0
    obtain ⟨k, hk, rfl, hA, hb⟩ := hrel
    by_cases hlt : k < 24576
    · have hl : k < (List.replicate k (255 : UInt8) ++ List.replicate (24576 - k) 0).length := by rw [List.length_append, List.length_replicate, List.length_replicate]; omega
      have hc := chip_byte hA hl
      have hf := hA.frozen (5 + k)
      have hN := chip_setByte hA k 255 255 rfl
      rw [rep_set k 24576 hlt] at hN
      have HN := Lib.hid hN
      have HB := Lib.hid (hb.setCell (p := ⟨g, 5 + k, none⟩) (Nat.le_refl _) (.int .u8 255))
      have hki : (k : Int) < 24576 := by omega
      generalize (((List.replicate k (255 : UInt8) ++ List.replicate (24576 - k) 0).getD k 0).toNat : Int) = x at hc
      clear hA hl hN hb
      go_wp2
      go_roundw
      case rel => exact ⟨k + 1, by omega, by go_num, HN.out, HB.out⟩
      case measure => simp [intOf]; omega
    · obtain rfl : k = 24576 := by omega
      have HN : Hid (RN wr g st0) := ⟨st0_ok, _, _, hA, rfl⟩
      have HB := Lib.hid hb
      have hge : Hid (w.heap.size ≤ g) := by unfold Hid; omega
      clear hA hb
      rw [← hg] at HB
      go_wp2
      go_ret
      exact ⟨g, rfl, hge.out, HN.out, HB.out⟩

/-- copy of a string's bytes. -/
theorem run_copy_str {P : Program} (w : World) (dT sT ty elem : TypeId) (g o dLen dCap : Nat) (s : ByteArray) (n : Nat) (hn : min s.size dLen = n) (cur : Array Value) (t : TypeId)
    (hu : P.underlying dT = some (.slice elem)) (hs : (P.info? elem).map (·.size) = some 1) (hg : w.heap[g]? = some (.cells cur t (0, 0))) (hfit : o + n ≤ cur.size) :
    (Builtin.copy_ #[dT, sT] ty #[.slice (some ⟨g, o, none⟩) dLen dCap, .string s]).run P w =
      .ok (goInt n) (w.setRow g (cur.toList.take o ++ Lib.byteCells (s.data.toList.take n) ++ cur.toList.drop (o + n)).toArray) := by
  have hlen : (Lib.byteCells (s.data.toList.take n)).length = n := by rw [byteCells_length, List.length_take]; have : s.data.toList.length = s.size := rfl; omega
  have hst := run_storeCells_at P g o t (Lib.byteCells (s.data.toList.take n)) 0 cur w hg (by rw [hlen]; simpa using hfit) (Lib.byteCells_one _)
  have hmin : Nat.min s.size dLen = n := hn
  have htk : List.take n (List.map (fun b : UInt8 => Value.int IntKind.u8 (b.toNat : Int)) s.data.toList) = Lib.byteCells (s.data.toList.take n) := by
    unfold Lib.byteCells; rw [List.map_take]
  rw [hlen] at hst
  simp only [Nat.add_zero] at hst
  cases hq : P.info? elem with
  | none => simp [hq] at hs
  | some i =>
    simp [Builtin.copy_, run_underlying hu, Builtin.lenOf, Builtin.firstCells, sizeOf, typeInfo, hq, hmin]
    rw [htk, hst]
    simp [Result.andThen]
theorem copy_str {P : Program} {ops : Array Oper} {rest : List Oper} {o : Oper} {a : Act} {w : World} {Q : Exit → Act → World → Prop} (hgd : o.guard = none) (d x : Operand) (dT sT : TypeId)
    (ho : o.op = .call { callee := .builtin .copy, args := #[d, x], argTypes := #[dT, sT] }) (v u : Value) (hd : a.eval d = v) (hx : a.eval x = u) {v' : Value} {w' : World}
    (hr : (Builtin.copy_ #[dT, sT] o.type #[v, u]).run P w = .ok v' w') (h : wpList P ops Q rest (a.put o.dst v') w') : wpList P ops Q (o :: rest) a w := by
  refine wpList_plain hgd fun K hK => ?_
  unfold Oper.wp
  simp [execOp, ho, resolve, invoke, builtin, hd, hx, hr, Result.andThen]
  exact hK _ _ h
/-- A flash whose first bytes are s. -/
def ldS (s : ByteArray) : St := ⟨true, 0, none, s.data.toList ++ List.replicate (24576 - s.size) 255⟩
theorem ldS_ok (s : ByteArray) (h : s.size ≤ 24576) : (ldS s).ok :=
  ⟨by show List.length (_ ++ _) = _; rw [List.length_append, List.length_replicate]; have : s.data.toList.length = s.size := rfl; omega, fun e => (nomatch e), fun _ _ e => (nomatch e)⟩
theorem chip_copied (m on : Bool) (ops left : Int) (torn : ByteArray) (B X : List UInt8) :
    ((chipC m on ops left torn B).toList.take 5 ++ Lib.byteCells X ++ (chipC m on ops left torn B).toList.drop (5 + X.length)).toArray = chipC m on ops left torn (X ++ B.drop X.length) := by
  unfold chipC Lib.byteCells
  apply Array.ext'
  rw [show 5 + X.length = X.length + 1 + 1 + 1 + 1 + 1 by omega]
  simp

end Go.Proofs.Ytidnbpehhpakcaa
