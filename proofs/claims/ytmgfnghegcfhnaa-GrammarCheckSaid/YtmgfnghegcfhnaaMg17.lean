/- What the document's walk of trees returns. Conditions: a tree that is read, with names of at most 100 bytes, and of at most 2^39 nodes. -/
import Derived.Test.YtmgfnghegcfhnaaMg13
import Derived.Test.YtmgfnghegcfhnaaTrQ
import Derived.Test.YtmgfnghegcfhnaaMg16
import Derived.Deep.RegionLaw
import Derived.Deep.AppendLies
namespace Go.Proofs.Ytmgfnghegcfhnaa
open Go.RowKit

/-- A node of a list of spots: its path, itself, its slices. -/
structure SPT where
  pa : ByteArray
  nd : ND
  y : Value
  z : Value
def spl (s : SPT) : List Value := [.string s.pa, .string s.nd.nm, s.y, s.z]
def spL (L : List SPT) : List Value := L.flatMap spl
def spP (s : SPT) : List UInt8 × ND := (s.pa.data.toList, s.nd)
theorem spL_app (l r : List SPT) : spL (l ++ r) = spL l ++ spL r := by simp [spL]
theorem spL_length (l : List SPT) : (spL l).length = l.length * 4 := by
  induction l with
  | nil => rfl
  | cons x l ih => show (spl x ++ spL l).length = _; rw [List.length_append, ih, List.length_cons]; simp only [spl, List.length_cons, List.length_nil]; omega
theorem elemSpot : ElemN Try.prog 33 38 4 80 := elemN_mk Try.underlying33 (z := .agg #[.string ByteArray.empty, .string ByteArray.empty, .slice none 0 0, .slice none 0 0]) (by kernel_rfl) rfl (by decide)
/-- Are all names of so many levels below of at most 100 bytes? -/
def nmR : Nat → ND → Bool
  | 0, _ => true
  | k + 1, n => n.ks.all fun x => decide (x.nm.size ≤ 100) && nmR k x
theorem nm_of_low : ∀ (k j : Nat) (n : ND), lowR j n = true → nmR k n = true
  | 0, _, _, _ => rfl
  | k + 1, 0, _, h => by cases h
  | k + 1, j + 1, n, h => by
    show (n.ks.all fun x => decide (x.nm.size ≤ 100) && nmR k x) = true
    rw [List.all_eq_true]
    intro x hx
    have hl := low_kids h x hx
    match j, hl with
    | j + 1, hl => rw [decide_eq_true (low_parts hl).1, nm_of_low k (j + 1) x hl]; rfl
theorem nm_kids {k : Nat} {n : ND} (h : nmR (k + 1) n = true) : ∀ x ∈ n.ks, x.nm.size ≤ 100 ∧ nmR k x = true := fun x hx => by
  have h' := List.all_eq_true.1 (show (n.ks.all fun x => decide (x.nm.size ≤ 100) && nmR k x) = true from h) x hx
  rw [Bool.and_eq_true] at h'
  exact ⟨of_decide_eq_true h'.1, h'.2⟩
/-- The spots behind j kids. -/
def wkR (k : Nat) (p : List UInt8) (n : ND) (j : Nat) : List (List UInt8 × ND) := (p, n) :: (n.ks.take j).flatMap fun x => walkR k (under p ++ x.nm.data.toList) x
theorem wkR_succ (k : Nat) (p : List UInt8) (n : ND) {j : Nat} (hj : j < n.ks.length) : wkR k p n (j + 1) = wkR k p n j ++ walkR k (under p ++ (n.ks.getD j nd0).nm.data.toList) (n.ks.getD j nd0) := by
  unfold wkR
  rw [List.take_succ_eq_append_getElem hj, List.flatMap_append, List.cons_append]
  have e : n.ks.getD j nd0 = n.ks[j] := by rw [List.getD_eq_getElem?_getD, List.getElem?_eq_getElem hj]; rfl
  rw [e]; simp
theorem wkR_all (k : Nat) (p : List UInt8) (n : ND) : walkR (k + 1) p n = wkR k p n n.ks.length := by unfold wkR; rw [List.take_length]; rfl
theorem walk_len : ∀ (k : Nat) (p : List UInt8) (n : ND), (walkR k p n).length = (countR k n).a
  | 0, _, _ => rfl
  | k + 1, p, n => by
    have h : ∀ l : List ND, (l.flatMap fun x => walkR k (under p ++ x.nm.data.toList) x).length = (csum k l).a := by
      intro l
      induction l with
      | nil => rfl
      | cons x l ih =>
        rw [List.flatMap_cons, List.length_append, ih, walk_len k _ x]; rfl
    rw [countR_succ]
    show (n.ks.flatMap _).length + 1 = 1 + _
    rw [h]; omega
theorem wk_le (k : Nat) (p : List UInt8) (n : ND) {j : Nat} (hj : j < n.ks.length) : (wkR k p n j).length + (walkR k (under p ++ (n.ks.getD j nd0).nm.data.toList) (n.ks.getD j nd0)).length ≤ (countR (k + 1) n).a := by
  have h1 : ∀ d i, i + d ≤ n.ks.length → (wkR k p n i).length ≤ (wkR k p n (i + d)).length := by
    intro d
    induction d with
    | zero => intro i _; exact Nat.le_refl _
    | succ d ih =>
      intro i hi
      have h1 := ih i (by omega)
      rw [show i + (d + 1) = i + d + 1 by omega, wkR_succ k p n (show i + d < n.ks.length by omega), List.length_append]
      omega
  have h2 := h1 (n.ks.length - (j + 1)) (j + 1) (by omega)
  rw [show j + 1 + (n.ks.length - (j + 1)) = n.ks.length by omega, ← wkR_all, walk_len, wkR_succ k p n hj, List.length_append] at h2
  exact h2
theorem add_str {x y z : ByteArray} (hz : z.data.toList = x.data.toList ++ y.data.toList) (h : x.size + y.size ≤ 1099511627776) (W : World) : (Op.stringOp .add x y).run Try.prog W = .ok (.string z) W := by
  have hs : ∀ l : List UInt8, (ByteArray.mk l.toArray).size = l.length := fun l => by show l.toArray.size = _; simp
  have hb : ∀ s : ByteArray, (⟨s.data.toList.toArray⟩ : ByteArray) = s := fun s => by cases s; simp
  have := run_string_add_sum (P := Try.prog) W (⟨x.data.toList.toArray⟩ : ByteArray) ⟨y.data.toList.toArray⟩ (by rw [hs, hs]; show x.size + y.size ≤ _; omega)
  rw [ByteArray.mk_append_mk, hb, hb, ← hz, hb] at this
  exact this
/-- A path as bytes, with a slash behind it. -/
theorem under_one (p : ByteArray) (m : Nat) (hm : p.size = m + 1) : p.data.toList.getLast? = some (p.data.toList.getD m 0) := by
  have hl : p.data.toList.length = m + 1 := hm
  rw [List.getLast?_eq_getElem?, hl, List.getD_eq_getElem?_getD, show m + 1 - 1 = m by omega, List.getElem?_eq_getElem (by omega)]; rfl

set_option maxHeartbeats 3200000 in
set_option maxRecDepth 100000 in
theorem rwalk_any (B : Nat) : ∀ (k : Nat) (n : ND) (v2 v3 : Value) (p : ByteArray) (w : World), k ≤ 20 → 1 ≤ p.size → p.size + 200 * k ≤ 1000000 → nmR k n = true → (countR k n).a ≤ 549755813888 → NdAt w (fun b => b < B) n v2 v3 → B ≤ w.heap.size →
    Calls Try.prog 33 #[.string p, .agg #[.string n.nm, v2, v3], .int .i64 (k : Int)] w fun e w' => ∃ (v : Value) (L : List SPT), e = .returned v ∧ w'.ownsRow w.heap.size 38 4 v L.length (spL L) ∧ L.map spP = walkR k p.data.toList n ∧ (∀ s ∈ L, NdAt w' (fun b => b < B) s.nd s.y s.z) ∧ (∀ x ∈ spL L, x.oneCell' = true) ∧ Below w.heap.size w w'
  | 0, n, v2, v3, p, w, _, _, _, _, _, _, _ => by
    have hB : Below w.heap.size w (w.alloc (.cells #[.string n.nm, v2, v3] 29)) := (Below.refl _ _).alloc (Nat.le_refl _) _
    have HB := Lib.hid hB
    clear hB
    go_enter Try.func33, Try.ntmps33
    go_wp2
    go_ret
    exact ⟨_, [], rfl, World.ownsRow_nil _ _ _ _, rfl, (fun s hs => by cases hs), (fun x hx => by cases hx), HB.out⟩
  | k + 1, n, v2, v3, p, w, hk20, hp1, hpk, hnm, hcn, hN, hBw => by
    have HIH := Lib.hid (fun x y z q W h1 h2 h3 h4 h h5 => rwalk_any B k x y z q W (by omega) h1 h2 h3 h4 h h5)
    have e1 : (k : Int) = ((k + 1 : Nat) : Int) - 1 := by omega
    rw [e1] at HIH
    obtain ⟨A, K, pc, kc, rfl, rfl, hpc, hpm, hkc, hkm⟩ := nd_shape hN
    unfold maxLen at hpm hkm
    have HWA := Lib.hid (wkR_all k p.data.toList n)
    have HWS := Lib.hid (fun j (hj : j < n.ks.length) => wkR_succ k p.data.toList n hj)
    have HWL := Lib.hid (fun j (hj : j < n.ks.length) => wk_le k p.data.toList n hj)
    have HNK := Lib.hid (nm_kids hnm)
    have HKL := Lib.hid (fun j (hj : j < n.ks.length) => (kid_le k n hj).1)
    have HW0 : Hid (wkR k p.data.toList n 0 = [(p.data.toList, n)]) := rfl
    clear e1
    have d0 : (((k + 1 : Nat) : Int) == 0) = false := by simp; omega
    have hpk2 : p.size + 200 * k ≤ 999800 := by omega
    obtain ⟨KK, hKK⟩ : ∃ KK : Nat, KK = k + 1 := ⟨_, rfl⟩
    rw [← hKK] at HIH d0 hk20 hpk HWA ⊢
    obtain ⟨U, hU⟩ : ∃ U : ByteArray, U.data.toList = under p.data.toList := ⟨⟨(under p.data.toList).toArray⟩, by simp⟩
    obtain ⟨m, hm⟩ : ∃ m, p.size = m + 1 := ⟨p.size - 1, by omega⟩
    have hlast := under_one p m hm
    have hUs : U.size ≤ p.size + 1 := by
      show U.data.toList.length ≤ p.data.toList.length + 1
      rw [hU]; unfold under; split
      · omega
      · rw [List.length_append]; simp only [List.length_cons, List.length_nil]; omega
    obtain ⟨PS, hPS⟩ : ∃ PS : ByteArray, PS.data.toList = p.data.toList ++ [47] := ⟨⟨(p.data.toList ++ [47]).toArray⟩, by simp⟩
    have a1 : ∀ W, (Op.stringOp .add p ⟨#[47]⟩).run Try.prog W = .ok (.string PS) W := fun W => add_str (by rw [hPS]) (by show p.size + 1 ≤ _; omega) W
    obtain ⟨W1, hW1⟩ : ∃ W1, W1 = w.alloc (.cells #[.string n.nm, .slice A n.ps.length pc, .slice K n.ks.length kc] 29) := ⟨_, rfl⟩
    obtain ⟨g8, hg8⟩ : ∃ g8, g8 = w.heap.size := ⟨_, rfl⟩
    have hB1 : Below w.heap.size w W1 := by rw [hW1]; exact (Below.refl _ _).alloc (Nat.le_refl _) _
    have hA8 : Arr W1 g8 29 #[.string n.nm, .slice A n.ps.length pc, .slice K n.ks.length kc] := by rw [hW1, hg8]; exact Arr.new w _ _
    have HN := Lib.hid hN
    have hz1 := hB1.size
    have k0 : W1.cell? ⟨g8, 0, none⟩ = some (.string n.nm) := hA8.cell 0
    have k1 : W1.cell? ⟨g8, 1, none⟩ = some (.slice A n.ps.length pc) := hA8.cell 1
    have k2 : W1.cell? ⟨g8, 2, none⟩ = some (.slice K n.ks.length kc) := hA8.cell 2
    have hba : Below W1.heap.size W1 (W1.alloc (.cells #[.string p, .string n.nm, .slice A n.ps.length pc, .slice K n.ks.length kc] 38)) := (Below.refl _ _).alloc (Nat.le_refl _) _
    have HO0 : Hid ((W1.alloc (.cells #[.string p, .string n.nm, .slice A n.ps.length pc, .slice K n.ks.length kc] 38)).ownsRow 0 38 4 (.slice (some ⟨W1.heap.size, 0, none⟩) 1 1) 1 (spL [⟨p, n, .slice A n.ps.length pc, .slice K n.ks.length kc⟩])) :=
      ⟨rfl, .inr ⟨W1.heap.size, 1, _, rfl, Nat.zero_le _, Arr.new W1 _ _, Nat.le_refl _, by decide, rfl, rfl⟩⟩
    have HB0 := Lib.hid (hB1.trans (hba.mono hz1))
    have HN0 := Lib.hid (nd_below (nd_below hN hB1) hba)
    have HA80 := Lib.hid (hA8.below hba hA8.lt)
    have HEL := Lib.hid elemSpot
    clear hN hB1 hA8 hKK hba hnm
    go_enter Try.func33, Try.ntmps33
    go_upto_region 1 with fail
    rw [← hW1, ← hg8]
    clear hW1 hg8
    go_wp2
    go_loopw [7, 8] (fun o i wr => ∃ (j : Nat) (L : List SPT), j ≤ n.ks.length ∧ i = .int .i64 j ∧ wr.ownsRow 0 38 4 o L.length (spL L) ∧ (∀ q, o.ownBlock = some q → w.heap.size ≤ q) ∧ Below w.heap.size w wr ∧ Arr wr g8 29 #[.string n.nm, .slice A n.ps.length pc, .slice K n.ks.length kc] ∧ Hid (L.map spP = wkR k p.data.toList n j) ∧ (∀ s ∈ L, NdAt wr (fun b => b < B) s.nd s.y s.z) ∧ Hid (∀ x ∈ spL L, x.oneCell' = true)) (fun _ i _ => n.ks.length - (intOf i).toNat)
    case atStart =>
      refine ⟨0, [⟨p, n, .slice A n.ps.length pc, .slice K n.ks.length kc⟩], Nat.zero_le _, rfl, HO0.out, (fun q hq => by injection hq with hq; subst hq; exact hz1), HB0.out, HA80.out, rfl, (fun s hs => ?_), fun x hx => ?_⟩
      · rw [List.mem_singleton] at hs; subst hs; exact HN0.out
      · simp [spL, spl] at hx; rcases hx with rfl | rfl | rfl | rfl <;> rfl
    case round =>
      clear HO0 HB0 HA80 HN0 k0 k1 k2
      obtain ⟨j, L, hj, rfl, hown, hbl, hb, hA8, HJ, hnd, H1C⟩ := hrel
      have HB := Lib.hid hb
      have HOWN := Lib.hid hown
      have HBL := Lib.hid hbl
      have HA8 := Lib.hid hA8
      have HND := Lib.hid hnd
      have hsz := hb.size
      have k2 : wr.cell? ⟨g8, 2, none⟩ = some (.slice K n.ks.length kc) := hA8.cell 2
      by_cases hlt : j < n.ks.length
      · have hji : (j : Int) < n.ks.length := by omega
        obtain ⟨b, off, x, y, z, rfl, h1, h2, h3, h4, HX⟩ := nd_kid (nd_below HN.out hb) hlt
        have hxm := getD_mem (d := nd0) hlt
        have hwl := HWL.out j hlt
        have hws := HWS.out j hlt
        have hkl := HKL.out j hlt
        rw [HX.out] at hxm hwl hws hkl
        have hx100 := (HNK.out x hxm).1
        have hxn := (HNK.out x hxm).2
        obtain ⟨QP, hQP⟩ : ∃ QP : ByteArray, QP.data.toList = U.data.toList ++ x.nm.data.toList := ⟨⟨(U.data.toList ++ x.nm.data.toList).toArray⟩, by simp⟩
        have hQs : QP.size = U.size + x.nm.size := by show QP.data.toList.length = _; rw [hQP, List.length_append]; rfl
        have a2 : ∀ W, (Op.stringOp .add U x.nm).run Try.prog W = .ok (.string QP) W := fun W => add_str hQP (by omega) W
        have hU1 : 1 ≤ U.size := by
          show 1 ≤ U.data.toList.length
          rw [hU]; unfold under; split
          · show 1 ≤ p.size; omega
          · rw [List.length_append]; simp only [List.length_cons, List.length_nil]; omega
        rw [← hU, ← hQP] at hwl hws
        have HWJ := Lib.hid hws
        have HC : Hid (∀ W', Below wr.heap.size wr W' → Calls Try.prog 33 #[.string QP, .agg #[.string x.nm, y, z], .int .i64 (IntKind.i64.wrap ((KK : Int) - 1))] W' fun e w' => ∃ (v : Value) (L2 : List SPT), e = .returned v ∧ w'.ownsRow 0 38 4 v L2.length (spL L2) ∧ L2.map spP = walkR k QP.data.toList x ∧ (∀ s ∈ L2, NdAt w' (fun b => b < B) s.nd s.y s.z) ∧ (∀ x ∈ spL L2, x.oneCell' = true) ∧ Below wr.heap.size wr w') := fun W' h => by
          rw [IntKind.wrap_i64, show ((KK : Int) - 1 + 9223372036854775808) % 18446744073709551616 - 9223372036854775808 = (KK : Int) - 1 by omega]
          exact (HIH.out x y z QP W' (by omega) (by omega) hxn (by omega) (nd_below h4 h) (by have := h.size; omega)).mono fun e w' ⟨v, L2, r1, r2, r3, r4, r5, r6⟩ => ⟨v, L2, r1, ow_base r2 (fun _ _ => Nat.zero_le _), r3, r4, r5, h.trans (r6.mono h.size)⟩
        have hLl : L.length + (walkR k QP.data.toList x).length ≤ 549755813888 := by
          have := congrArg List.length HJ.out
          rw [List.length_map] at this
          omega
        obtain ⟨A5, cap5, ho, _⟩ := slice_ofN hown
        subst ho
        have HLL : Hid (∀ L2 : List SPT, L2.map spP = walkR k QP.data.toList x → L.length + L2.length ≤ 549755813888) := fun L2 h => by
          have := congrArg List.length h
          rw [List.length_map] at this
          omega
        have hbd : Below wr.heap.size wr wr.drew := (Below.refl _ _).drew
        have HFI : Hid (∀ (v : Value) (L2 : List SPT) (w3 : World) (A' : Option Addr) (cap' : Nat) (w5 : World), L2.map spP = walkR k QP.data.toList x → (∀ s ∈ L2, NdAt w3 (fun b => b < B) s.nd s.y s.z) → (∀ x ∈ spL L2, x.oneCell' = true) → Below wr.heap.size wr w3 →
            w5.ownsRow 0 38 4 (.slice A' (L.length + L2.length) cap') (L.length + L2.length) (spL L ++ spL L2) → Moved w3 w5 (ownS (.slice A5 L.length cap5)) (ownS (.slice A' (L.length + L2.length) cap')) →
            (∃ L3 : List SPT, w5.ownsRow 0 38 4 (.slice A' (L.length + L2.length) cap') L3.length (spL L3) ∧ Hid (L3.map spP = wkR k p.data.toList n (j + 1)) ∧ (∀ s ∈ L3, NdAt w5 (fun b => b < B) s.nd s.y s.z) ∧ Hid (∀ x ∈ spL L3, x.oneCell' = true)) ∧ (∀ q, (Value.slice A' (L.length + L2.length) cap').ownBlock = some q → w.heap.size ≤ q) ∧ Below w.heap.size w w5 ∧ Arr w5 g8 29 #[.string n.nm, .slice A n.ps.length pc, .slice (some ⟨b, off, none⟩) n.ks.length kc]) := by
          intro v L2 w3 A' cap' w5 q1 q2 q3 q4 q5 q6
          have hz3 : w.heap.size ≤ w3.heap.size := Nat.le_trans hsz q4.size
          have hown : ∀ q, (Value.slice A' (L.length + L2.length) cap').ownBlock = some q → w.heap.size ≤ q := fun q hq => by
            rcases q6.foot q hq with h5 | h5
            · exact HBL.out q h5
            · exact Nat.le_trans hz3 h5
          have hap : ∀ q, q < B → ¬ ownS (.slice A5 L.length cap5) q := fun q hq h => by
            have := HBL.out q h
            omega
          refine ⟨⟨L ++ L2, ?_, ?_, ?_, ?_⟩, hown, ?_, ?_⟩
          · rw [List.length_append, spL_app]; exact q5
          · unfold Hid
            rw [List.map_append, HJ.out, q1, HWJ.out]
          · intro s hs
            rcases List.mem_append.1 hs with hs | hs
            · exact (nd_below (HND.out s hs) q4).kept q6 hap
            · exact (q2 s hs).kept q6 hap
          · intro x hx
            rw [spL_app] at hx
            rcases List.mem_append.1 hx with hx | hx
            · exact H1C.out x hx
            · exact q3 x hx
          · exact (HB.out.trans (q4.mono hsz)).trans (q6.below HBL.out hz3)
          · refine q6.arr (HA8.out.below q4 HA8.out.lt) (fun h => ?_)
            exact ow_arr HA8.out HOWN.out (by decide) h.symm
        clear hown hbl hA8 hnd hb h4 hwl hws hkl HX hxm hLl hQs hQP
        have HK1 : Hid (∀ w', Below wr.heap.size wr w' → w'.cell? ⟨g8, 2, none⟩ = some (.slice (some ⟨b, off, none⟩) n.ks.length kc) ∧ w'.cell? ⟨b, off + j * 3, none⟩ = some (.string x.nm) ∧ w'.cell? ⟨b, off + j * 3 + 1, none⟩ = some y ∧ w'.cell? ⟨b, off + j * 3 + 2, none⟩ = some z) := fun w' h =>
          have M := Moved.of_below h (fun _ => False)
          ⟨cell_kept M id k2, cell_kept M id h1, cell_kept M id h2, cell_kept M id h3⟩
        have hbw : b < w.heap.size := by
          obtain ⟨b2, off2, x2, y2, z2, e, c1, _⟩ := nd_kid HN.out hlt
          injection e with e
          injection e with e _ _
          subst e
          exact World.block_lt_of_cell? w _ c1
        have HK2 : Hid (∀ w3 w5 A' n' cap', Below wr.heap.size wr w3 → Moved w3 w5 (ownS (.slice A5 L.length cap5)) (ownS (.slice A' n' cap')) → w5.cell? ⟨g8, 2, none⟩ = some (.slice (some ⟨b, off, none⟩) n.ks.length kc) ∧ w5.cell? ⟨b, off + j * 3, none⟩ = some (.string x.nm) ∧ w5.cell? ⟨b, off + j * 3 + 1, none⟩ = some y ∧ w5.cell? ⟨b, off + j * 3 + 2, none⟩ = some z) := fun w3 w5 A' n' cap' h M => by
          obtain ⟨c1, c2, c3, c4⟩ := HK1.out w3 h
          have hg : ¬ ownS (.slice A5 L.length cap5) g8 := fun h => ow_arr HA8.out HOWN.out (by decide) h.symm
          have hbn : ¬ ownS (.slice A5 L.length cap5) b := fun h => by have := HBL.out b h; omega
          exact ⟨cell_kept M hg c1, cell_kept M hbn c2, cell_kept M hbn c3, cell_kept M hbn c4⟩
        have hml : m < p.size := by omega
        have hgd : p.data.toList.getD m 0 = p[m] := by rw [List.getD_eq_getElem?_getD, List.getElem?_eq_getElem (by exact hml)]; rfl
        by_cases c47 : p[m] = 47
        · have hUp : U = p := by
            apply ByteArray.ext
            apply Array.ext'
            rw [hU]; unfold under
            rw [hlast, hgd, c47, if_pos rfl]
          rw [hUp] at a2
          have d47 : (((p[m].toNat : Nat) : Int) == 47) = true := by rw [c47]; rfl
          clear hUp hU hlast hgd c47 hUs hU1
          have hm1 : (m : Int) < (m : Int) + 1 := by omega
          go_upto_region 10 with fail
          go_region_held3 (fun w' => w'.cell? ⟨g8, 2, none⟩ = some (.slice (some ⟨b, off, none⟩) n.ks.length kc) ∧ w'.cell? ⟨b, off + j * 3, none⟩ = some (.string x.nm) ∧ w'.cell? ⟨b, off + j * 3 + 1, none⟩ = some y ∧ w'.cell? ⟨b, off + j * 3 + 2, none⟩ = some z) (first | (exact HK1.out _ (by assumption)) | (exact HK2.out _ _ _ _ _ (by assumption) (by assumption)))
            (first | (go_at_call 33; refine (HC.out _ hbd).mono ?_; rintro e w3 ⟨v3, L2, rfl, q2, q1, q4, q5, q6⟩; have hm3 := HLL.out L2 q1; have ho3 := ow_below HOWN.out q6) | (refine step_append_row (by rfl) _ _ _ (by rfl) 38 4 80 HEL (.slice A5 L.length cap5) v3 L.length L2.length 0 (spL L) (spL L2) (by rfl) ho3 (by rfl) q2 q5 (by unfold maxLen; omega) (by omega) ?_; intro A' cap' w5 q7 q8))
          all_goals (
            obtain ⟨⟨L3, r1, r2, r3, r4⟩, r5, r6, r7⟩ := HFI.out v3 L2 w3 A' cap' w5 q1 q4 q5 q6 q7 q8
            have R1 := Lib.hid r1
            have R3 := Lib.hid r3
            have R5 := Lib.hid r5
            have R6 := Lib.hid r6
            have R7 := Lib.hid r7
            clear r1 r3 r5 r6 r7 q1 q2 q4 q5 q6 q7 q8 ho3 hm3 HFI HC HK1 HK2 HOWN HB HBL HA8 HND H1C HJ HWJ HLL
            go_wp2
            go_roundw
            case rel => exact ⟨j + 1, L3, by omega, by go_num, R1.out, R5.out, R6.out, R7.out, r2, R3.out, r4⟩
            case measure => simp [intOf]; omega)
        · have hUp : U = PS := by
            apply ByteArray.ext
            apply Array.ext'
            rw [hU, hPS]; unfold under
            rw [hlast, hgd, if_neg (by intro e; injection e with e; exact c47 e)]
          rw [hUp] at a2
          have d47 : (((p[m].toNat : Nat) : Int) == 47) = false := by
            have : p[m].toNat ≠ 47 := fun e => c47 (UInt8.toNat_inj.1 e)
            simp; omega
          clear hUp hU hlast hgd c47 hUs hU1
          have hm1 : (m : Int) < (m : Int) + 1 := by omega
          go_upto_region 10 with fail
          go_region_held3 (fun w' => w'.cell? ⟨g8, 2, none⟩ = some (.slice (some ⟨b, off, none⟩) n.ks.length kc) ∧ w'.cell? ⟨b, off + j * 3, none⟩ = some (.string x.nm) ∧ w'.cell? ⟨b, off + j * 3 + 1, none⟩ = some y ∧ w'.cell? ⟨b, off + j * 3 + 2, none⟩ = some z) (first | (exact HK1.out _ (by assumption)) | (exact HK2.out _ _ _ _ _ (by assumption) (by assumption)))
            (first | (go_at_call 33; refine (HC.out _ hbd).mono ?_; rintro e w3 ⟨v3, L2, rfl, q2, q1, q4, q5, q6⟩; have hm3 := HLL.out L2 q1; have ho3 := ow_below HOWN.out q6) | (refine step_append_row (by rfl) _ _ _ (by rfl) 38 4 80 HEL (.slice A5 L.length cap5) v3 L.length L2.length 0 (spL L) (spL L2) (by rfl) ho3 (by rfl) q2 q5 (by unfold maxLen; omega) (by omega) ?_; intro A' cap' w5 q7 q8))
          all_goals (
            obtain ⟨⟨L3, r1, r2, r3, r4⟩, r5, r6, r7⟩ := HFI.out v3 L2 w3 A' cap' w5 q1 q4 q5 q6 q7 q8
            have R1 := Lib.hid r1
            have R3 := Lib.hid r3
            have R5 := Lib.hid r5
            have R6 := Lib.hid r6
            have R7 := Lib.hid r7
            clear r1 r3 r5 r6 r7 q1 q2 q4 q5 q6 q7 q8 ho3 hm3 HFI HC HK1 HK2 HOWN HB HBL HA8 HND H1C HJ HWJ HLL
            go_wp2
            go_roundw
            case rel => exact ⟨j + 1, L3, by omega, by go_num, R1.out, R5.out, R6.out, R7.out, r2, R3.out, r4⟩
            case measure => simp [intOf]; omega)
      · obtain rfl : j = n.ks.length := by omega
        rw [← HWA.out] at HJ
        clear hown hbl hA8 hnd hb
        go_wp2
        go_ret
        exact ⟨_, L, rfl, ow_base HOWN.out HBL.out, HJ.out, HND.out, H1C.out, HB.out⟩

set_option maxHeartbeats 800000 in
set_option maxRecDepth 100000 in
theorem rWalk_any (B : Nat) (n : ND) (v2 v3 : Value) (w : World) (hnm : nmR 8 n = true) (hcn : (countR 8 n).a ≤ 549755813888) (hN : NdAt w (fun b => b < B) n v2 v3) (hBw : B ≤ w.heap.size) :
    Calls Try.prog 17 #[.agg #[.string n.nm, v2, v3]] w fun e w' => ∃ (v : Value) (L : List SPT), e = .returned v ∧ w'.ownsRow w.heap.size 38 4 v L.length (spL L) ∧ L.map spP = walkR 8 [47] n ∧ (∀ s ∈ L, NdAt w' (fun b => b < B) s.nd s.y s.z) ∧ Below w.heap.size w w' := by
  obtain ⟨W1, hW1⟩ : ∃ W1, W1 = w.alloc (.cells #[.string n.nm, v2, v3] 29) := ⟨_, rfl⟩
  obtain ⟨g8, hg8⟩ : ∃ g8, g8 = w.heap.size := ⟨_, rfl⟩
  have hB1 : Below w.heap.size w W1 := by rw [hW1]; exact (Below.refl _ _).alloc (Nat.le_refl _) _
  have hA8 : Arr W1 g8 29 #[.string n.nm, v2, v3] := by rw [hW1, hg8]; exact Arr.new w _ _
  have HB1 := Lib.hid hB1
  have hz1 := hB1.size
  have k0 : W1.cell? ⟨g8, 0, none⟩ = some (.string n.nm) := hA8.cell 0
  have k1 : W1.cell? ⟨g8, 1, none⟩ = some v2 := hA8.cell 1
  have k2 : W1.cell? ⟨g8, 2, none⟩ = some v3 := hA8.cell 2
  have HC := Lib.hid (rwalk_any B 8 n v2 v3 ⟨#[47]⟩ W1 (by omega) (by decide) (by decide) hnm hcn (nd_below hN hB1) (Nat.le_trans hBw hz1))
  rw [show (ByteArray.mk #[47]).data.toList = [47] from rfl] at HC
  generalize walkR 8 [47] n = T at *
  clear hN hB1 hA8 hnm hcn hBw
  go_enter Try.func17, Try.ntmps17
  go_upto_region 1 with fail
  rw [← hW1, ← hg8]
  clear hW1 hg8
  go_wp2_with fail
  refine HC.out.mono ?_
  rintro e w3 ⟨v, L, rfl, ho, hm, hn, _, hb3⟩
  have HO := Lib.hid (ow_base ho (base' := w.heap.size) (fun q hq => Nat.le_trans hz1 (ho.lt q hq).1))
  have HB3 := Lib.hid (HB1.out.trans (hb3.mono hz1))
  have HM := Lib.hid hm
  have HNN := Lib.hid hn
  clear hb3 ho hm hn HC
  go_wp2
  go_ret
  exact ⟨v, L, rfl, HO.out, HM.out, HNN.out, HB3.out⟩
end Go.Proofs.Ytmgfnghegcfhnaa
