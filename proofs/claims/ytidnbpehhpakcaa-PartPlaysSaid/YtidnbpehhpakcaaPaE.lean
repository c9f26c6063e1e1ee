/- What the document's Sectors, Same and SameInts return. Conditions: slices that read as parts whose sectors exist, and as at most 20 names; two slices of the same. -/
import Derived.Test.YtidnbpehhpakcaaPaD
import Derived.Test.YtidnbpehhpakcaaKit
import Derived.Deep.QuietTactic
namespace Go.Proofs.Ytidnbpehhpakcaa
open Go.RowKit

/-- Numbers as values. -/
def intsV (l : List Int) : List Value := l.map (Value.int .i64)
theorem rdI_own {w : World} {base : Nat} {v : Value} {n : Nat} {l : List Int} (h : w.ownsRow base 3 1 v n (intsV l)) : ∃ A cap, v = .slice A l.length cap ∧ RdI w.heap.size w A l := by
  have hn : n = l.length := by have := h.1; simp [intsV] at this; omega
  subst hn
  rcases h.2 with ⟨rfl, hz⟩ | ⟨g, cap, cur, rfl, hb, hg, _, _, _, hx⟩
  · exact ⟨none, 0, by rw [hz], .inl (List.length_eq_zero_iff.1 hz)⟩
  · refine ⟨_, cap, rfl, .inr ⟨g, 0, rfl, (Array.getElem?_eq_some_iff.1 hg).1, fun k hk => ?_⟩⟩
    rw [Nat.zero_add, cell_of_row w g k cur _ (0, 0) hg]
    have e : (cur.toList.take (l.length * 1))[k]? = (intsV l)[k]? := by rw [hx]
    rw [List.getElem?_take_of_lt (by omega)] at e
    rw [← Array.getElem?_toList, e]
    simp [intsV, List.getD, hk]
theorem own_below {w w' : World} {base e size : Nat} {v : Value} {n : Nat} {xs : List Value} (h : w.ownsRow base e size v n xs) (hb : Below w.heap.size w w') : w'.ownsRow base e size v n xs :=
  h.kept (grown_below (r := none) hb) (by cases v.ownBlock with
    | none => exact .inl rfl
    | some g => exact .inr (fun e => nomatch e))
theorem own_beside {w : World} {base g t e : Nat} {cs : Array Value} {v : Value} {n : Nat} {xs : List Value} (hA : Arr w g t cs) (h : w.ownsRow base e 1 v n xs) (hne : t ≠ e) : some g ≠ v.ownBlock := by
  rcases h.2 with ⟨rfl, _⟩ | ⟨g', cap, cur, rfl, _, hg, _⟩
  · intro e; cases e
  · intro e'
    simp only [Value.ownBlock, Option.some.injEq] at e'
    subst e'
    unfold Arr at hA
    rw [hA] at hg
    injection hg with hg
    injection hg with _ h2 _
    exact hne h2
/-- 's = append(s, u)', s a slice of the call's own; what else there is stays. -/
theorem append_beside {P : Program} {ops : Array Oper} {rest : List Oper} {o : Oper} {a : Act} {Q : Exit → Act → World → Prop} {w : World} (hgd : o.guard = none) (s x : Operand) (t : TypeId)
    (ho : o.op = .call { callee := .builtin .append, args := #[s, x], argTypes := #[t, t] })
    (base : Nat) (e : TypeId) (z : Value) (bytes : Nat) (hel : Hid (ElemIs P t e z bytes)) (u : Value) (h1 : u.oneCell' = true)
    (v : Value) (n : Nat) (xs : List Value) (hs : a.eval s = v) (hown : w.ownsRow base e 1 v n xs) (hx : a.eval x = .slice (some ⟨w.heap.size, 0, none⟩) 1 1)
    (hn : (n + 1) * bytes ≤ 140737488355328) (hm : n + 1 ≤ maxLen) (hbase : base ≤ w.heap.size)
    (h : ∀ v' w', w'.ownsRow base e 1 v' (n + 1) (xs ++ [u]) → Below base w w' → w.grownBy w' v.ownBlock → wpList P ops Q rest (a.put o.dst v') w') : wpList P ops Q (o :: rest) a (w.alloc (.cells #[u] e)) := by
  obtain ⟨h0, hz, i, hi, hz0, hz1, hz2⟩ := hel.out
  refine wpList_append_own _ hgd s x t ho base e i z 1 bytes h0 hi hz0 hz1 hz2 hz (by decide) v n xs hs (hown.alloc _) ⟨w.heap.size, 0, none⟩ 1 1 [u] hx rfl ?_ ?_ hm hn (by simp; omega) ?_
  · intro j y hj
    match j, hj with
    | 0, hj => simp at hj; subst hj; simp [Addr.add]
  · intro y hy; simp at hy; subst hy; exact h1
  · intro v' w' ho' hg _
    exact h v' w' ho' (((Below.refl _ _).alloc hbase _).grown hg (by simp; omega) (fun g hg' => (hown.lt g hg').1)) (grown_trans (grown_alloc _ _ _) hg)
theorem elemInt : ElemIs Try.prog 40 3 (.int .i64 0) 8 := elemIs_mk Try.underlying40 rfl (by kernel_rfl)
theorem intsV_snoc (l : List Int) (x : Int) : intsV (l ++ [x]) = intsV l ++ [.int .i64 x] := by simp [intsV]
theorem partInt : (33 : Nat) ≠ 3 := by decide

set_option maxHeartbeats 1600000 in
set_option maxRecDepth 100000 in
theorem rsectors_any (A : Option Addr) (cap : Nat) (L : List PT) (A' : Option Addr) (cap' : Nat) (N : List ByteArray) (w : World) (hr : RdP w A L) (hl : L.length ≤ maxLen) (hg : Good L) (hN : RdN w A' N) (hn : N.length ≤ 20) :
    Calls Try.prog 17 #[.slice A L.length cap, .slice A' N.length cap'] w fun e w' => ∃ v, e = .returned v ∧ w'.ownsRow w.heap.size 3 1 v (secs L N).length (intsV (secs L N)) ∧ Below w.heap.size w w' := by
  have HR := Lib.hid hr
  have HRN := Lib.hid hN
  have HG := Lib.hid hg
  have HL := Lib.hid hl
  have HEL := Lib.hid elemInt
  have hl2 : L.length ≤ 9223372036854775807 := by unfold maxLen at hl; omega
  clear hr hN hg hl
  go_enter Try.func17, Try.ntmps17
  go_wp2
  go_loopw [5, 6] (fun v i wr => ∃ k : Nat, k ≤ N.length ∧ i = .int .i64 k ∧ wr.ownsRow w.heap.size 3 1 v (secs L (N.take k)).length (intsV (secs L (N.take k))) ∧ Below w.heap.size w wr) (fun _ i _ => N.length - (intOf i).toNat)
  case atStart => exact ⟨0, Nat.zero_le _, rfl, World.ownsRow_nil _ _ _ _, Below.refl _ _⟩
  case round =>
    obtain ⟨k, hk, rfl, hown, hb⟩ := hrel
    have HOWN := Lib.hid hown
    have HB := Lib.hid hb
    have hsz := hb.size
    clear hown hb
    by_cases hlt : k < N.length
    · have hki : (k : Int) < N.length := by omega
      obtain ⟨b, off, x, rfl, hc, HX⟩ := (HRN.out.below HB.out).at_ hlt
      have HTK := Lib.hid (secs_take L N hlt)
      rw [HX.out] at HTK
      have HF := Lib.hid (rfind_any A cap L x wr (HR.out.below HB.out) HL.out)
      have hv := fdV_good HG.out x
      have hlen : (secs L (N.take k)).length ≤ 960 := by
        have := secs_length HG.out (N.take k)
        rw [List.length_take] at this
        omega
      generalize fdV L x = p at *
      generalize fdB L x = fb at *
      obtain ⟨nm, fi, mn⟩ := p
      simp only at hv HTK
      simp only [ptV] at HF
      obtain ⟨v1, v2, v3, v4⟩ := hv
      obtain ⟨m, rfl⟩ := Int.eq_ofNat_of_zero_le v2
      rw [Int.toNat_natCast] at HTK
      have hm48 : m ≤ 48 := by omega
      generalize secs L (N.take k) = S0 at *
      clear HX
      go_wp2_with fail
      refine HF.out.mono ?_
      rintro e w1 ⟨rfl, hb1⟩
      have HO1 := Lib.hid ((own_below HOWN.out hb1).alloc (.cells (ptC ⟨nm, fi, m⟩) 33))
      have HB1 := Lib.hid ((HB.out.trans (hb1.mono hsz)).alloc (Nat.le_trans hsz hb1.size) (.cells (ptC ⟨nm, fi, m⟩) 33))
      have HA1 := Lib.hid (Arr.new w1 33 (ptC ⟨nm, fi, m⟩))
      have hsz1 := HB1.out.size
      clear hb1 HOWN HF
      go_wp2
      change Code.wp _ _ _ _ (w1.alloc (.cells (ptC ⟨nm, fi, m⟩) 33))
      generalize w1.heap.size = g at *
      generalize w1.alloc (.cells (ptC ⟨nm, fi, m⟩) 33) = W1 at *
      go_loopw [5, 9] (fun v i wr => ∃ j : Nat, j ≤ m ∧ i = .int .i64 j ∧ wr.ownsRow w.heap.size 3 1 v (S0 ++ secs1 ⟨nm, fi, m⟩ j).length (intsV (S0 ++ secs1 ⟨nm, fi, m⟩ j)) ∧ Arr wr g 33 (ptC ⟨nm, fi, m⟩) ∧ Below w.heap.size w wr) (fun _ i _ => m - (intOf i).toNat)
      case atStart => exact ⟨0, Nat.zero_le _, rfl, by simpa [secs1] using HO1.out, HA1.out, HB1.out⟩
      case round =>
        clear HO1 HA1 HB1
        obtain ⟨j, hj, rfl, hown, hA, hb⟩ := hrel
        have c1 : wr.cell? ⟨g, 1, none⟩ = some (.int .i64 fi) := hA.cell 1
        have c2 : wr.cell? ⟨g, 2, none⟩ = some (.int .i64 m) := hA.cell 2
        have HOWN := Lib.hid hown
        have HA := Lib.hid hA
        have HB2 := Lib.hid hb
        have hsz2 := hb.size
        have HS := Lib.hid (secs1_succ ⟨nm, fi, m⟩ j)
        simp only at HS
        have hlj : (secs1 ⟨nm, fi, m⟩ j).length = j := secs1_length _ _
        have hll : (S0 ++ secs1 ⟨nm, fi, m⟩ j).length ≤ 1100 := by rw [List.length_append]; omega
        have HLL : Hid ((S0 ++ secs1 ⟨nm, fi, m⟩ j).length + 1 = (S0 ++ secs1 ⟨nm, fi, m⟩ (j + 1)).length) := by
          unfold Hid; rw [List.length_append, List.length_append, secs1_length, secs1_length]; omega
        have HSN : Hid (intsV (S0 ++ secs1 ⟨nm, fi, m⟩ j) ++ [.int .i64 (fi + j)] = intsV (S0 ++ secs1 ⟨nm, fi, m⟩ (j + 1))) := by
          unfold Hid; rw [HS.out, ← List.append_assoc, intsV_snoc]
        have HN : Hid (∀ (v' : Value) (w' : World), w'.ownsRow w.heap.size 3 1 v' ((S0 ++ secs1 ⟨nm, fi, m⟩ j).length + 1) (intsV (S0 ++ secs1 ⟨nm, fi, m⟩ j) ++ [.int .i64 (fi + j)]) → w'.ownsRow w.heap.size 3 1 v' (S0 ++ secs1 ⟨nm, fi, m⟩ (j + 1)).length (intsV (S0 ++ secs1 ⟨nm, fi, m⟩ (j + 1)))) := by
          intro v' w' h
          rwa [HLL.out, HSN.out] at h
        clear hown hA hb HLL HSN HS hlj
        by_cases hlj : j < m
        · have hji : (j : Int) < m := by omega
          generalize secs1 ⟨nm, fi, m⟩ j = S1 at *
          go_wp2_with (refine append_beside rfl (.tmp 31) (.tmp 36) 40 rfl w.heap.size 3 (.int .i64 0) 8 HEL (.int .i64 (fi + j)) rfl _ (S0 ++ S1).length (intsV (S0 ++ S1)) rfl HOWN.out rfl (by omega) (by unfold maxLen; omega) hsz2 ?_; intro v' w' ho' hb' hg')
          have HO3 := Lib.hid (HN.out _ _ ho')
          have HA3 := Lib.hid (HA.out.grown hg' (own_beside HA.out HOWN.out partInt))
          have HB3 := Lib.hid (HB2.out.trans hb')
          clear ho' hb' hg' HOWN HA HB2 HN c1 c2
          go_roundw
          case rel => exact ⟨j + 1, by omega, by go_num, HO3.out, HA3.out, HB3.out⟩
          case measure => simp [intOf]; omega
        · obtain rfl : j = m := by omega
          rw [← HTK.out] at HOWN
          go_wp2
          go_roundw
          case rel => exact ⟨k + 1, by omega, by go_num, HOWN.out, HB2.out⟩
          case measure => simp [intOf]; omega
    · obtain rfl : k = N.length := by omega
      rw [List.take_length] at HOWN
      go_wp2
      go_ret
      exact ⟨_, rfl, HOWN.out, HB.out⟩

set_option maxHeartbeats 800000 in
set_option maxRecDepth 100000 in
theorem sameInts_any (A A' : Option Addr) (cap cap' : Nat) (l : List Int) (w : World) (hl : l.length ≤ 1099511627776) (hr : RdI w.heap.size w A l) (hr' : RdI w.heap.size w A' l) :
    Calls Try.prog 15 #[.slice A l.length cap, .slice A' l.length cap'] w fun e w' => e = .returned (.bool true) ∧ Below w.heap.size w w' := by
  go_enter Try.func15, Try.ntmps15
  go_wp2
  go_loopw [5] (fun i wr => ∃ k : Nat, k ≤ l.length ∧ i = .int .i64 k ∧ Below w.heap.size w wr) (fun i _ => l.length - (intOf i).toNat)
  case atStart => exact ⟨0, Nat.zero_le _, rfl, Below.refl _ _⟩
  case round =>
    obtain ⟨k, hk, rfl, hb⟩ := hrel
    have hsz := hb.size
    by_cases hlt : k < l.length
    · obtain ⟨b, off, x, rfl, hbl, hc, HX⟩ := (hr.below hb).at_ hlt
      obtain ⟨b', off', x', rfl, hbl', hc', HX'⟩ := (hr'.below hb).at_ hlt
      obtain rfl : x = x' := HX.out.symm.trans HX'.out
      go_wp2
      go_quiet (fail)
      have hb2 : Below w.heap.size w (wr.drewN nq) := hb.trans ((below_drewN _ _).mono hsz)
      go_wp2
      go_roundw
      case rel => exact ⟨k + 1, by omega, by go_num, hb2⟩
      case measure => simp [intOf]; omega
    · have hkl : k = l.length := by omega
      subst hkl
      go_wp2
      go_ret
      exact ⟨rfl, hb⟩

set_option maxHeartbeats 800000 in
set_option maxRecDepth 100000 in
theorem rsame_any (A A' : Option Addr) (cap cap' : Nat) (L : List PT) (w : World) (hl : L.length ≤ maxLen) (hr : RdP w A L) (hr' : RdP w A' L) :
    Calls Try.prog 14 #[.slice A L.length cap, .slice A' L.length cap'] w fun e w' => e = .returned (.bool true) ∧ Below w.heap.size w w' := by
  have hl2 : L.length ≤ 9223372036854775807 := by unfold maxLen at hl; omega
  have HR := Lib.hid hr
  have HR' := Lib.hid hr'
  clear hr hr' hl
  go_enter Try.func14, Try.ntmps14
  go_wp2
  go_loopw [5] (fun i wr => ∃ k : Nat, k ≤ L.length ∧ i = .int .i64 k ∧ Below w.heap.size w wr) (fun i _ => L.length - (intOf i).toNat)
  case atStart => exact ⟨0, Nat.zero_le _, rfl, Below.refl _ _⟩
  case round =>
    obtain ⟨k, hk, rfl, hb⟩ := hrel
    have hsz := hb.size
    have HB := Lib.hid hb
    clear hb
    by_cases hlt : k < L.length
    · have hki : (k : Int) < L.length := by omega
      obtain ⟨b, off, x, rfl, ⟨h1, h2, h3⟩, HX⟩ := (HR.out.below HB.out).at_ hlt
      obtain ⟨b', off', x', rfl, ⟨g1, g2, g3⟩, HX'⟩ := (HR'.out.below HB.out).at_ hlt
      obtain rfl : x = x' := HX.out.symm.trans HX'.out
      obtain ⟨nm, fi, mn⟩ := x
      simp only at h1 h2 h3 g1 g2 g3
      go_wp2
      go_quiet (fail)
      have hb2 : Below w.heap.size w (wr.drewN nq) := HB.out.trans ((below_drewN _ _).mono hsz)
      go_wp2
      go_roundw
      case rel => exact ⟨k + 1, by omega, by go_num, hb2⟩
      case measure => simp [intOf]; omega
    · obtain rfl : k = L.length := by omega
      go_wp2
      go_ret
      exact ⟨rfl, HB.out⟩
end Go.Proofs.Ytidnbpehhpakcaa
