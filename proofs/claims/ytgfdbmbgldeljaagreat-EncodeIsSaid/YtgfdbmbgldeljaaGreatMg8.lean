/- A slice of numbers of any kind that came in, read as a list. No condition: nothing of the program stands in it. -/
import Derived.Test.YtgfdbmbgldeljaaGreatMg0
import Derived.Test.YtgfdbmbgldeljaaGreatShelf
import Derived.Test.YtgfdbmbgldeljaaGreatStPlain
import Derived.Laws.IdiomStrings
import Derived.Deep.QuietTactic
import Derived.BigQuiet
import Derived.IntWalk
import Derived.WalkKit
import Derived.WalkSpells
import Derived.Laws.AppendOwn
import Derived.Lib.Hide
namespace Go.Proofs.YtgfdbmbgldeljaaGreat
open Go.RowKit

/-- The slice at A reads as the numbers l, of kind k. -/
def RdK (k : IntKind) (w : World) (A : Option Addr) (l : List Int) : Prop := l = [] ∨ ∃ b off, A = some ⟨b, off, none⟩ ∧ ∀ j, j < l.length → w.cell? ⟨b, off + j, none⟩ = some (.int k (l.getD j 0))
theorem RdK.at_ {k : IntKind} {w : World} {A : Option Addr} {l : List Int} (h : RdK k w A l) {j : Nat} (hj : j < l.length) : ∃ b off x, A = some ⟨b, off, none⟩ ∧ w.cell? ⟨b, off + j, none⟩ = some (.int k x) ∧ Hid (l.getD j 0 = x) := by
  rcases h with rfl | ⟨b, off, rfl, hc⟩
  · simp at hj
  · exact ⟨b, off, _, rfl, hc j hj, rfl⟩
theorem RdK.below {k : IntKind} {w w' : World} {A : Option Addr} {l : List Int} (h : RdK k w A l) (hb : Below w.heap.size w w') : RdK k w' A l := by
  rcases h with h | ⟨b, off, rfl, hc⟩
  · exact .inl h
  · exact .inr ⟨b, off, rfl, fun j hj => (World.cell?_of_block (a := ⟨b, off + j, none⟩) (hb.block b (World.block_lt_of_cell? w _ (hc j hj)))).trans (hc j hj)⟩
theorem cellK_below {w w' : World} {b o : Nat} {v : Value} (h : w.cell? ⟨b, o, none⟩ = some v) (hb : Below w.heap.size w w') : w'.cell? ⟨b, o, none⟩ = some v :=
  (World.cell?_of_block (a := ⟨b, o, none⟩) (hb.block b (World.block_lt_of_cell? w _ h))).trans h
end Go.Proofs.YtgfdbmbgldeljaaGreat

/- What allowed, Get and the map of no bytes' positions are, and strings.Cut at one byte 0; the document's May, Get and Few. Conditions: strings of at most 2^40 bytes, places of 64 bits. -/
namespace Go.Proofs.YtgfdbmbgldeljaaGreat
open Go.RowKit

theorem sallowed_any (s : ByteArray) (w : World) (hl : s.size ≤ maxLen) : Calls Tryz.prog 82 #[.string s] w fun e w' => e = .returned (.bool (mayB s)) ∧ w = w' := by
  have hz := indexByte_z0 s.data.toList
  have hm := z0_mem s.data.toList
  have hlen : s.data.toList.length = s.size := rfl
  have HI := Lib.hid (Tryz.strings_IndexByte s 0)
  have h0 : (0 : Int).toNat.toUInt8 = 0 := rfl
  rw [h0, hz] at HI
  unfold maxLen at hl
  by_cases h1 : 1 ≤ s.size
  · by_cases h2 : s.size ≤ 31
    · have d1 : decide ((1 : Int) ≤ s.size) = true := decide_eq_true (by omega)
      have d2 : decide ((s.size : Int) ≤ 31) = true := decide_eq_true (by omega)
      by_cases h3 : z0 s.data.toList < s.data.toList.length
      · have hf : mayB s = false := by cases e : mayB s with
          | false => rfl
          | true => exact absurd (hm.2 h3) (mayB_iff.1 e).2.2
        rw [hf]
        rw [if_pos h3] at HI
        have d3 : decide (((z0 s.data.toList : Nat) : Int) < 0) = false := decide_eq_false (by omega)
        generalize z0 s.data.toList = z at *
        clear hz hm h3 hf hlen h1 h2
        go_enter Tryz.func82, Tryz.ntmps82
        go_wp2_with fail
        refine (HI.out _).mono ?_
        rintro e w1 ⟨rfl, rfl⟩
        go_wp2
        go_ret
        exact ⟨rfl, rfl⟩
      · have hf : mayB s = true := mayB_iff.2 ⟨h1, h2, fun h => h3 (hm.1 h)⟩
        rw [hf]
        rw [if_neg h3] at HI
        clear hz hm h3 hf hlen h1 h2
        go_enter Tryz.func82, Tryz.ntmps82
        go_wp2_with fail
        refine (HI.out _).mono ?_
        rintro e w1 ⟨rfl, rfl⟩
        go_wp2
        go_ret
        exact ⟨rfl, rfl⟩
    · have hf : mayB s = false := by cases e : mayB s with
        | false => rfl
        | true => exact absurd (mayB_iff.1 e).2.1 h2
      rw [hf]
      have d1 : decide ((1 : Int) ≤ s.size) = true := decide_eq_true (by omega)
      have d2 : decide ((s.size : Int) ≤ 31) = false := decide_eq_false (by omega)
      clear hz hm hf hlen h1 h2
      go_enter Tryz.func82, Tryz.ntmps82
      go_wp2
      go_ret
      exact ⟨rfl, rfl⟩
  · have hf : mayB s = false := by cases e : mayB s with
      | false => rfl
      | true => exact absurd (mayB_iff.1 e).1 h1
    rw [hf]
    have d1 : decide ((1 : Int) ≤ s.size) = false := decide_eq_false (by omega)
    clear hz hm hf hlen h1
    go_enter Tryz.func82, Tryz.ntmps82
    go_wp2
    go_ret
    exact ⟨rfl, rfl⟩

/-- internal/stringslite.Cut at one byte. -/
theorem scut0_lite (s : ByteArray) (w : World) (hl : s.size ≤ maxLen) : Calls Tryz.prog 103 #[.string s, .string ⟨#[0]⟩] w fun e w' =>
    (∃ r, e = .returned (.tuple #[.string (if z0 s.data.toList < s.size then s.extract 0 (z0 s.data.toList) else s), .string r, .bool (decide (z0 s.data.toList < s.size))])) ∧ ∃ n, w' = w.drewN n := by
  have hz := indexByte_z0 s.data.toList
  have hlen : s.data.toList.length = s.size := rfl
  have HI := Lib.hid (Tryz.stringslite_Index_one s 0)
  rw [hz, hlen] at HI
  unfold maxLen at hl
  by_cases h3 : z0 s.data.toList < s.size
  · rw [if_pos h3] at HI
    rw [if_pos h3, decide_eq_true h3]
    generalize z0 s.data.toList = z at *
    have c0 : (0 : Int) ≤ z := by omega
    have c1 : (z : Int) ≤ s.size := by omega
    have c2 : (0 : Int) ≤ (z : Int) + 1 := by omega
    have c3 : (z : Int) + 1 ≤ s.size := by omega
    have d0 : decide ((0 : Int) ≤ (z : Int)) = true := decide_eq_true (by omega)
    clear hz hlen
    go_enter Tryz.func103, Tryz.ntmps103
    go_wp2_with fail
    refine (HI.out _).mono ?_
    rintro e w1 ⟨rfl, rfl⟩
    go_wp2
    go_quiet (fail)
    go_wp2
    go_ret3
    exact ⟨⟨_, rfl⟩, _, rfl⟩
  · rw [if_neg h3] at HI
    rw [if_neg h3, decide_eq_false h3]
    clear hz hlen
    go_enter Tryz.func103, Tryz.ntmps103
    go_wp2_with fail
    refine (HI.out _).mono ?_
    rintro e w1 ⟨rfl, rfl⟩
    go_wp2
    go_ret3
    exact ⟨⟨_, rfl⟩, 0, rfl⟩
theorem scut0_any (s : ByteArray) (w : World) (hl : s.size ≤ maxLen) : Calls Tryz.prog 102 #[.string s, .string ⟨#[0]⟩] w fun e w' =>
    (∃ r, e = .returned (.tuple #[.string (if z0 s.data.toList < s.size then s.extract 0 (z0 s.data.toList) else s), .string r, .bool (decide (z0 s.data.toList < s.size))])) ∧ ∃ n, w' = w.drewN n := by
  have HI := Lib.hid (scut0_lite s w hl)
  generalize decide (z0 s.data.toList < s.size) = d at *
  generalize (if z0 s.data.toList < s.size then s.extract 0 (z0 s.data.toList) else s) = x at *
  go_enter Tryz.func102, Tryz.ntmps102
  go_wp2_with fail
  refine HI.out.mono ?_
  rintro e w1 ⟨⟨r, rfl⟩, n, rfl⟩
  go_wp2
  go_ret3
  exact ⟨⟨_, rfl⟩, n, rfl⟩
end Go.Proofs.YtgfdbmbgldeljaaGreat

/- What Get and the document's Get return: the string at a place of bytes; the document's May and Few. Conditions: strings that fit, places of 64 bits. -/
namespace Go.Proofs.YtgfdbmbgldeljaaGreat
open Go.RowKit

theorem ext_list (s : ByteArray) (a b : Nat) : (s.extract a b).data.toList = (s.data.toList.take b).drop a := by
  rw [ByteArray.data_extract, Array.toList_extract, List.extract_eq_take_drop, List.drop_take]
theorem cut_list (s : ByteArray) (a : Nat) : (s.extract a s.size).data.toList = s.data.toList.drop a := by
  rw [ext_list, List.take_of_length_le (by show s.data.toList.length ≤ s.size; exact Nat.le_refl _)]
theorem ba_eq (s : ByteArray) : s = ⟨s.data.toList.toArray⟩ := by cases s; simp
/-- The three ends of Get. -/
theorem getR_range {l : List UInt8} {p : Int} (h : p < 0 ∨ (l.length : Int) ≤ p) : getR l p = (ByteArray.empty, 2) := by unfold getR; rw [if_pos h]
theorem getR_in (s : ByteArray) (a : Nat) (h : a < s.size) : getR s.data.toList a = if z0 (s.data.toList.drop a) < s.size - a then (s.extract a (a + z0 (s.data.toList.drop a)), 0) else (ByteArray.empty, 6) := by
  have hlen : s.data.toList.length = s.size := rfl
  unfold getR
  rw [if_neg (by omega), Int.toNat_natCast, List.length_drop, hlen]
  split
  · congr 1
    rw [ba_eq (s.extract _ _), ext_list]
    congr 2
    rw [List.take_drop]
  · rfl

set_option maxHeartbeats 800000 in
set_option maxRecDepth 100000 in
theorem sget_any (s : ByteArray) (p : Int) (w : World) (hl : s.size ≤ maxLen) (h1 : p < 9223372036854775808) (h2 : -9223372036854775808 ≤ p) :
    Calls Tryz.prog 100 #[.string s, .int .i64 p] w fun e w' => e = .returned (.tuple #[.string (getR s.data.toList p).1, .int .i64 ((getR s.data.toList p).2 : Int)]) ∧ ∃ n, w' = w.drewN n := by
  have hlen : s.data.toList.length = s.size := rfl
  have hl' := hl
  unfold maxLen at hl'
  by_cases h0 : p < 0
  · rw [getR_range (.inl h0)]
    have d0 : decide (p < 0) = true := decide_eq_true h0
    clear h0 hlen hl
    go_enter Tryz.func100, Tryz.ntmps100
    go_wp2
    go_ret2
    exact ⟨rfl, 0, rfl⟩
  obtain ⟨a, rfl⟩ := Int.eq_ofNat_of_zero_le (by omega : 0 ≤ p)
  have d0 : decide ((a : Int) < 0) = false := decide_eq_false h0
  by_cases h3 : a < s.size
  · have d1 : decide ((s.size : Int) ≤ (a : Int)) = false := decide_eq_false (by omega)
    have d1' : decide (s.size ≤ a) = false := decide_eq_false (by omega)
    have HC := Lib.hid (fun W => scut0_any (s.extract a s.size) W (by rw [ByteArray.size_extract]; omega))
    rw [getR_in s a h3]
    rw [cut_list] at HC
    have hsz : (s.extract a s.size).size = s.size - a := by rw [ByteArray.size_extract]; omega
    rw [hsz] at HC
    have HEX : Hid (z0 (s.data.toList.drop a) < s.size - a → (s.extract a s.size).extract 0 (z0 (s.data.toList.drop a)) = s.extract a (a + z0 (s.data.toList.drop a))) := by
      intro hz
      rw [ba_eq (ByteArray.extract _ _ _), ba_eq (s.extract a (a + _)), ext_list, cut_list, ext_list, List.drop_zero, List.take_drop]
    generalize z0 (s.data.toList.drop a) = z at *
    have c0 : (0 : Int) ≤ a := by omega
    have c1 : (a : Int) ≤ s.size := by omega
    by_cases hz : z < s.size - a
    · have hex := HEX.out hz
      rw [if_pos hz, hex, decide_eq_true hz] at HC
      rw [if_pos hz]
      clear HEX hex hz hsz h3 h0 hlen hl h1 h2
      go_enter Tryz.func100, Tryz.ntmps100
      go_wp2_with fail
      refine (HC.out _).mono ?_
      rintro e w1 ⟨⟨r, rfl⟩, n, rfl⟩
      go_wp2
      go_ret2
      exact ⟨rfl, n, rfl⟩
    · rw [if_neg hz, decide_eq_false hz] at HC
      rw [if_neg hz]
      clear HEX hz hsz h3 h0 hlen hl h1 h2
      go_enter Tryz.func100, Tryz.ntmps100
      go_wp2_with fail
      refine (HC.out _).mono ?_
      rintro e w1 ⟨⟨r, rfl⟩, n, rfl⟩
      go_wp2
      go_ret2
      exact ⟨rfl, n, rfl⟩
  · have d1 : decide ((s.size : Int) ≤ (a : Int)) = true := decide_eq_true (by omega)
    have d1' : decide (s.size ≤ a) = true := decide_eq_true (by omega)
    rw [getR_range (.inr (by rw [hlen]; omega))]
    clear h0 hlen hl h3
    go_enter Tryz.func100, Tryz.ntmps100
    go_wp2
    go_ret2
    exact ⟨rfl, 0, rfl⟩

set_option maxHeartbeats 800000 in
set_option maxRecDepth 100000 in
theorem rmay_any (s : ByteArray) (w : World) (hl : s.size ≤ maxLen) : Calls Tryz.prog 69 #[.string s] w fun e w' => e = .returned (.bool (mayB s)) ∧ w = w' := by
  have hlen : s.data.toList.length = s.size := rfl
  unfold maxLen at hl
  have HF : Hid (∀ k, k < s.size → s.data.toList.getD k 0 = 0 → mayB s = false) := by
    intro k hk h0
    cases e : mayB s with
    | false => rfl
    | true =>
      refine absurd ?_ (mayB_iff.1 e).2.2
      rw [← h0, List.getD_eq_getElem?_getD, List.getElem?_eq_getElem (by omega)]
      exact List.getElem_mem _
  have HN : Hid ((∀ j, j < s.size → s.data.toList.getD j 0 ≠ 0) → mayB s = (decide (1 ≤ s.size) && decide (s.size ≤ 31))) := by
    intro hj
    have hm : (0 : UInt8) ∉ s.data.toList := by
      rw [z0_mem, z0_none _ (fun j h => hj j (by omega))]; omega
    unfold mayB
    by_cases a1 : 1 ≤ s.size <;> by_cases a2 : s.size ≤ 31 <;> simp [a1, a2, hm]
  generalize mayB s = R at *
  go_enter Tryz.func69, Tryz.ntmps69
  go_wp2
  go_loop [3] (fun i => ∃ k : Nat, k ≤ s.size ∧ i = .int .i64 k ∧ Hid (∀ j, j < k → s.data.toList.getD j 0 ≠ 0)) (fun i => s.size - (intOf i).toNat)
  case atStart => exact ⟨0, Nat.zero_le _, rfl, fun j h1 => absurd h1 (by omega)⟩
  case round =>
    obtain ⟨k, hk2, rfl, HK⟩ := hrel
    by_cases hlt : k < s.size
    · have hki : (k : Int) < s.size := by omega
      have hk0 : (0 : Int) ≤ k := by omega
      have hgb : s.data.toList.getD k 0 = s[k] := by rw [List.getD_eq_getElem?_getD, List.getElem?_eq_getElem (by omega)]; rfl
      have HGB := Lib.hid hgb
      clear hgb
      by_cases hz : s[k] = 0
      · have HE := Lib.hid (HF.out k hlt (by rw [HGB.out]; exact hz))
        have d2 : ((s[k].toNat : Int) == 0) = true := by rw [hz]; rfl
        clear hz HF HN
        go_wp2
        go_ret
        exact ⟨by (rw [HE.out]; try rfl), rfl⟩
      · have d2 : ((s[k].toNat : Int) == 0) = false := by
          have : s[k].toNat ≠ 0 := fun e => hz (UInt8.toNat_inj.1 e)
          simp; omega
        go_wp2
        go_round
        case rel => exact ⟨k + 1, by omega, by go_num, fun j h2 => by
          by_cases e : j = k
          · subst e; rw [HGB.out]; exact hz
          · exact HK.out j (by omega)⟩
        case measure => simp [intOf]; omega
    · obtain rfl : k = s.size := by omega
      have hfin := HN.out HK.out
      clear HF HN
      by_cases a1 : 1 ≤ s.size
      · have d1 : decide ((1 : Int) ≤ s.size) = true := decide_eq_true (by omega)
        have e1 : decide (1 ≤ s.size) = true := decide_eq_true a1
        by_cases a2 : s.size ≤ 31
        · have d2 : decide ((s.size : Int) ≤ 31) = true := decide_eq_true (by omega)
          rw [e1, decide_eq_true a2] at hfin
          have HE := Lib.hid hfin
          clear a1 a2 e1 hfin
          go_wp2
          go_ret
          exact ⟨by rw [HE.out]; rfl, rfl⟩
        · have d2 : decide ((s.size : Int) ≤ 31) = false := decide_eq_false (by omega)
          rw [e1, decide_eq_false a2] at hfin
          have HE := Lib.hid hfin
          clear a1 a2 e1 hfin
          go_wp2
          go_ret
          exact ⟨by rw [HE.out]; rfl, rfl⟩
      · have d1 : decide ((1 : Int) ≤ s.size) = false := decide_eq_false (by omega)
        rw [decide_eq_false a1] at hfin
        have HE := Lib.hid hfin
        clear a1 hfin
        go_wp2
        go_ret
        exact ⟨by rw [HE.out]; rfl, rfl⟩
end Go.Proofs.YtgfdbmbgldeljaaGreat

/- Small general laws of this seat's proofs: one element appended to a slice that the call itself made. Conditions: the slice holds fewer than 2^47 bytes. -/
namespace Go.Proofs.YtgfdbmbgldeljaaGreat
open Go.RowKit

/-- t is a slice type whose elements, of type e, take one cell and so many bytes, with the zero value z. -/
def ElemIs (P : Program) (t e : TypeId) (z : Value) (bytes : Nat) : Prop :=
  P.underlying t = some (.slice e) ∧ z.cells.size = 1 ∧ ∃ i, P.info? e = some i ∧ i.zero = some z ∧ i.size = 1 ∧ i.bytes = bytes
theorem elemIs_mk {P : Program} {t e : TypeId} {z : Value} {bytes : Nat} (h0 : P.underlying t = some (.slice e)) (hz : z.cells.size = 1)
    (h : ((P.info? e).map fun i => (i.zero, i.size, i.bytes)) = some (some z, 1, bytes)) : ElemIs P t e z bytes := by
  obtain ⟨i, hi, he⟩ := Option.map_eq_some_iff.1 h
  simp only [Prod.mk.injEq] at he
  exact ⟨h0, hz, i, hi, he.1, he.2.1, he.2.2⟩
/-- 's = append(s, u)', s a slice of the call's own. -/
theorem append_one {P : Program} {ops : Array Oper} {rest : List Oper} {o : Oper} {a : Act} {Q : Exit → Act → World → Prop} {w : World} (hgd : o.guard = none) (s x : Operand) (t : TypeId)
    (ho : o.op = .call { callee := .builtin .append, args := #[s, x], argTypes := #[t, t] })
    (base : Nat) (e : TypeId) (z : Value) (bytes : Nat) (hel : Hid (ElemIs P t e z bytes)) (u : Value) (h1 : u.oneCell' = true)
    (v : Value) (n : Nat) (xs : List Value) (hs : a.eval s = v) (hown : w.ownsRow base e 1 v n xs) (hx : a.eval x = .slice (some ⟨w.heap.size, 0, none⟩) 1 1)
    (hn : (n + 1) * bytes ≤ 140737488355328) (hm : n + 1 ≤ maxLen) (hbase : base ≤ w.heap.size)
    (h : ∀ v' w', w'.ownsRow base e 1 v' (n + 1) (xs ++ [u]) → Below base w w' → wpList P ops Q rest (a.put o.dst v') w') : wpList P ops Q (o :: rest) a (w.alloc (.cells #[u] e)) := by
  obtain ⟨h0, hz, i, hi, hz0, hz1, hz2⟩ := hel.out
  refine wpList_append_own _ hgd s x t ho base e i z 1 bytes h0 hi hz0 hz1 hz2 hz (by decide) v n xs hs (hown.alloc _) ⟨w.heap.size, 0, none⟩ 1 1 [u] hx rfl ?_ ?_ hm hn (by simp; omega) ?_
  · intro j y hj
    match j, hj with
    | 0, hj => simp at hj; subst hj; simp [Addr.add]
  · intro y hy; simp at hy; subst hy; exact h1
  · intro v' w' ho' hg _
    exact h v' w' ho' (((Below.refl _ _).alloc hbase _).grown hg (by simp; omega) (fun g hg' => (hown.lt g hg').1))
end Go.Proofs.YtgfdbmbgldeljaaGreat

/- Rows of the call's own beside other blocks, and what a call that changes a few blocks leaves as it was. No condition: nothing of the program stands in it. -/
namespace Go.Proofs.YtgfdbmbgldeljaaGreat
open Go.RowKit

theorem sz_alloc (w : World) (o : Obj) : (w.alloc o).heap.size = w.heap.size + 1 := Array.size_push _
theorem gr_cell (w : World) (g j : Nat) (v : Value) : w.grownBy (w.setCell ⟨g, j, none⟩ v) (some g) :=
  ⟨rfl, rfl, rfl, ((Below.refl 0 w).setCell (p := ⟨g, j, none⟩) (Nat.zero_le _) v).size, fun k _ hk => heap_setCell_other w ⟨g, j, none⟩ k v (fun e => hk (by rw [e]))⟩
theorem gr_below {w w' : World} {r : Option Nat} (h : Below w.heap.size w w') : w.grownBy w' r := ⟨h.os, h.tape, h.output, h.size, fun k hk _ => h.block k hk⟩
theorem Arr.gr {w w' : World} {g t : Nat} {cs : Array Value} {r : Option Nat} (h : Arr w g t cs) (hg : w.grownBy w' r) (hr : some g ≠ r) : Arr w' g t cs := (hg.block g h.lt hr).trans h
section
variable {w w' : World} {base base' g t e e' size size' : Nat} {cs : Array Value} {v v' : Value} {n n' : Nat} {xs xs' : List Value}
theorem ow_below (h : w.ownsRow base e size v n xs) (hb : Below w.heap.size w w') : w'.ownsRow base e size v n xs :=
  h.kept (gr_below (r := none) hb) (by cases v.ownBlock with
    | none => exact .inl rfl
    | some g => exact .inr (fun e => by cases e))
/-- The block of a row is of its elements' type. -/
theorem ow_type (h : w.ownsRow base e size v n xs) {k : Nat} (hk : v.ownBlock = some k) : ∃ cur, w.heap[k]? = some (.cells cur e (0, 0)) := by
  rcases h.2 with ⟨rfl, _⟩ | ⟨g, cap, cur, rfl, _, hg, _⟩
  · cases hk
  · simp only [Value.ownBlock, Option.some.injEq] at hk
    subst hk
    exact ⟨cur, hg⟩
theorem ow_arr (hA : Arr w g t cs) (h : w.ownsRow base e size v n xs) (hne : t ≠ e) : some g ≠ v.ownBlock := by
  intro hk
  obtain ⟨cur, hg⟩ := ow_type h hk.symm
  unfold Arr at hA
  rw [hA] at hg
  injection hg with hg
  injection hg with _ h2 _
  exact hne h2
theorem ow_ow (h : w.ownsRow base e size v n xs) (h' : w.ownsRow base' e' size' v' n' xs') (hne : e ≠ e') : v.ownBlock = none ∨ v.ownBlock ≠ v'.ownBlock := by
  cases hk : v.ownBlock with
  | none => exact .inl rfl
  | some k =>
    refine .inr fun hk' => ?_
    obtain ⟨cur, hg⟩ := ow_type h hk
    obtain ⟨cur', hg'⟩ := ow_type h' hk'.symm
    rw [hg'] at hg
    injection hg with hg
    injection hg with _ h2 _
    exact hne h2.symm
theorem ow_set (hA : Arr w g t cs) (h : w.ownsRow base e size v n xs) (hne : t ≠ e) (j : Nat) (u : Value) : (w.setCell ⟨g, j, none⟩ u).ownsRow base e size v n xs :=
  h.kept (gr_cell w g j u) (by
    have := ow_arr hA h hne
    cases hk : v.ownBlock with
    | none => exact .inl rfl
    | some k => exact .inr fun e => this (by rw [hk, e]))
end
/-- Only blocks of F, and new ones, have changed; F' are the ones that may change next. -/
structure Moved (w w' : World) (F F' : Nat → Prop) : Prop where
  os : w'.os = w.os
  tape : w'.tape = w.tape
  output : w'.output = w.output
  size : w.heap.size ≤ w'.heap.size
  block : ∀ k, k < w.heap.size → ¬ F k → w'.heap[k]? = w.heap[k]?
  foot : ∀ k, F' k → F k ∨ w.heap.size ≤ k
section
variable {w w' w'' : World} {F F' F'' : Nat → Prop}
theorem Moved.refl (w : World) (F : Nat → Prop) : Moved w w F F := ⟨rfl, rfl, rfl, Nat.le_refl _, fun _ _ _ => rfl, fun _ h => .inl h⟩
theorem Moved.of_below (h : Below w.heap.size w w') (F : Nat → Prop) : Moved w w' F F := ⟨h.os, h.tape, h.output, h.size, fun k hk _ => h.block k hk, fun _ h => .inl h⟩
theorem Moved.trans (h : Moved w w' F F') (h' : Moved w' w'' F' F'') : Moved w w'' F F'' :=
  ⟨h'.os.trans h.os, h'.tape.trans h.tape, h'.output.trans h.output, Nat.le_trans h.size h'.size, fun k hk hf => (h'.block k (Nat.lt_of_lt_of_le hk h.size) (fun hf' => (h.foot k hf').elim hf (fun hle => absurd hk (by omega)))).trans (h.block k hk hf),
    fun k hk => (h'.foot k hk).elim (h.foot k) (fun hle => .inr (Nat.le_trans h.size hle))⟩
theorem Moved.below {B : Nat} (h : Moved w w' F F') (hF : ∀ k, F k → B ≤ k) (hB : B ≤ w.heap.size) : Below B w w' :=
  ⟨h.os, h.tape, h.output, h.size, fun k hk => h.block k (Nat.lt_of_lt_of_le hk hB) (fun hf => absurd (hF k hf) (by omega))⟩
theorem Moved.arr {g t : Nat} {cs : Array Value} (h : Moved w w' F F') (hA : Arr w g t cs) (hg : ¬ F g) : Arr w' g t cs := (h.block g hA.lt hg).trans hA
theorem Moved.grown {r : Option Nat} (hg : w.grownBy w' r) (hr : ∀ k, r = some k → F k) (hf : ∀ k, F' k → F k ∨ w.heap.size ≤ k) : Moved w w' F F' :=
  ⟨hg.os, hg.tape, hg.output, hg.size, fun k hk hn => hg.block k hk (fun e => hn (hr k e.symm)), hf⟩
end
end Go.Proofs.YtgfdbmbgldeljaaGreat
