/- The program's Reserve and Size of layer 14. Conditions: strings of at most 2^40 bytes. -/
import Derived.Test.YtgfdbmbgldeljaaMg37
import Derived.Test.YtgfdbmbgldeljaaMg26
import Derived.Test.YtgfdbmbgldeljaaMg14
namespace Go.Proofs.Ytgfdbmbgldeljaa
open Go.RowKit

section
variable {P : Program} {ops : Array Oper} {rest : List Oper} {o : Oper} {a : Act} {Q : Exit → Act → World → Prop} {w : World}
/-- 's = append(s, x)', x just laid in a block of its own, s in no block below B. -/
theorem append_newB (hgd : o.guard = none) (s y : Operand) (t : TypeId) (ho : o.op = .call { callee := .builtin .append, args := #[s, y], argTypes := #[t, t] })
    (e size bytes : Nat) (hel : Hid (ElemN P t e size bytes)) (B : Nat) (v : Value) (n : Nat) (xs : List Value) (hs : a.eval s = v) (hown : w.ownsRow B e size v n xs) (cs : Array Value) (hcs : cs.size = size) (h1 : ∀ u ∈ cs.toList, u.oneCell' = true)
    (H : Nat) (hH : w.heap.size = H) (hx : a.eval y = .slice (some ⟨H, 0, none⟩) 1 1) (hm : n + 1 ≤ maxLen) (hb : (n + 1) * bytes ≤ 140737488355328) (hB : B ≤ w.heap.size)
    (h : ∀ v' w', w'.ownsRow B e size v' (n + 1) (xs ++ cs.toList) → (w.alloc (.cells cs e)).grownBy w' v.ownBlock → wpList P ops Q rest (a.put o.dst v') w') : wpList P ops Q (o :: rest) a (w.alloc (.cells cs e)) := by
  subst hH
  obtain ⟨h0, i, z, hi, hz0, hz1, hz2, hz3, hz4⟩ := hel.out
  refine wpList_append_own_at _ hgd s y t ho B e i z size bytes h0 hi hz0 hz1 hz2 hz3 hz4 v n xs hs (hown.alloc _) ⟨w.heap.size, 0, none⟩ 1 1 cs.toList hx (by rw [Array.length_toList, hcs]; omega) ?_ h1 hm hb (by rw [sz_alloc]; omega) ?_
  · intro j u hj
    have e : (⟨w.heap.size, 0, none⟩ : Addr).add j = ⟨w.heap.size, j, none⟩ := by unfold Addr.add; split <;> simp_all
    rw [e, (Arr.new w _ cs).cell, ← hj, Array.getElem?_toList]
  · intro v' w' ho' hg _ _
    exact h v' w' ho' hg
end

theorem eqSpan (a b c d : Int) (w : World) : (Op.equalIn 10000 44 (.agg #[.int .i64 a, .int .i64 b]) (.agg #[.int .i64 c, .int .i64 d])).run Try.prog w = .ok (a == c && b == d) w := by
  have u3 := Try.underlying3
  have a3 := Try.isAgg3
  have z3 := Try.sizeOf3
  have hS : Try.prog.underlying 44 = some (.struct (Try.prog.fieldsOf 44)) := by kernel_rfl
  have hp : Try.prog.stoodInHeld 44 = false := by kernel_rfl
  rw [show (10000 : Nat) = 9999 + 1 from rfl, run_equalIn_agg w 9999 44 _ _ hS hp]
  simp only [Program.fieldsOf, Try.underlying44]
  go_simp
  by_cases h1 : a = c <;> by_cases h2 : b = d <;> simp [h1, h2]

set_option maxHeartbeats 3200000 in
set_option maxRecDepth 100000 in
theorem dreserve_any (s : ByteArray) (a : Int) (w : World) (hs : s.size ≤ 1099511627776) (ha : -9223372036854775808 ≤ a ∧ a ≤ 9223372036854775807) :
    Calls Try.prog 18 #[.string s, .int .i64 a] w fun e w' => ∃ A cap, e = .returned (.tuple #[.slice A (resv s.data.toList a).1.length cap, .int .i64 ((resv s.data.toList a).2 : Int)]) ∧ RdSp w' A (resv s.data.toList a).1 ∧ SpFar w.heap.size A (resv s.data.toList a).1 ∧ Below w.heap.size w w' := by
  have hsz : s.data.toList.length = s.size := rfl
  have HR0 : Hid (resv s.data.toList a = joinS [] (resvI (16 - ([] : List SP).length) s.data.toList a)) := by
    unfold Hid resv resvI
    split
    · rfl
    · rw [joinS_nil]; rfl
  have HCS : Hid (∀ x, (pairD s.data.toList x = (sp0, 14) ∧ ∀ k, resvI k s.data.toList x = ([], 14)) ∨ (pairD s.data.toList x = (sp0, 6) ∧ ∀ k, resvI k s.data.toList x = ([], 6)) ∨
      ∃ p q : Int, pairD s.data.toList x = (⟨p, q⟩, 0) ∧ 0 ≤ x ∧ x + 16 ≤ s.size ∧ ((p = 0 ∧ q = 0) → ∀ k, resvI k s.data.toList x = ([], 0)) ∧ (¬ (p = 0 ∧ q = 0) → resvI 0 s.data.toList x = ([], 7) ∧ ∀ k, resvI (k + 1) s.data.toList x = joinS [⟨p, q⟩] (resvI k s.data.toList (x + 16)))) := fun x => pair_cases _ x
  have HPR := Lib.hid (fun x W h => dpair_any s x W hs h)
  have HEL := Lib.hid elemSpD
  generalize resv s.data.toList a = R at *
  generalize hl : s.data.toList = l at *
  obtain ⟨ha1, ha2⟩ := ha
  clear hsz hl
  go_enter Try.func18, Try.ntmps18
  go_wp2
  go_loopw [1, 6] (fun x o wr => ∃ (n : Int) (O : List SP), x = .int .i64 n ∧ -9223372036854775808 ≤ n ∧ n ≤ 9223372036854775807 ∧ O.length ≤ 16 ∧ wr.ownsRow w.heap.size 44 2 o O.length (spD O) ∧ Hid (R = joinS O (resvI (16 - O.length) l n)) ∧ Below w.heap.size w wr) (fun x _ _ => s.size - (intOf x).toNat)
  case atStart => exact ⟨a, [], rfl, ha1, ha2, Nat.zero_le _, World.ownsRow_nil _ _ _ _, HR0, Below.refl _ _⟩
  case round =>
    clear HR0
    obtain ⟨n, O, rfl, hn1, hn2, hO, hown, HJ, hb⟩ := hrel
    have HOWN := Lib.hid hown
    have HB := Lib.hid hb
    have hsw := hb.size
    clear hown hb
    have HP1 := Lib.hid (fun W => HPR.out n W ⟨hn1, hn2⟩)
    rcases HCS.out n with ⟨hp, hk⟩ | ⟨hp, hk⟩ | ⟨p, q, hp, hx0, hx1, hz, hm⟩
    · rw [hp] at HP1
      have HE : Hid (R = ([], 14)) := by unfold Hid; rw [HJ.out, hk]; rfl
      clear hp hk HCS HPR HEL HJ HOWN
      go_wp2_with fail
      refine (HP1.out _).mono ?_
      rintro e w1 ⟨rfl, hb1⟩
      have HB1 := Lib.hid (HB.out.trans (hb1.mono hsw))
      clear hb1 HB HP1
      go_wp2
      go_ret2
      rw [HE.out]
      exact ⟨none, 0, rfl, .inl rfl, .inl rfl, HB1.out.alloc HB1.out.size _⟩
    · rw [hp] at HP1
      have HE : Hid (R = ([], 6)) := by unfold Hid; rw [HJ.out, hk]; rfl
      clear hp hk HCS HPR HEL HJ HOWN
      go_wp2_with fail
      refine (HP1.out _).mono ?_
      rintro e w1 ⟨rfl, hb1⟩
      have HB1 := Lib.hid (HB.out.trans (hb1.mono hsw))
      clear hb1 HB HP1
      go_wp2
      go_ret2
      rw [HE.out]
      exact ⟨none, 0, rfl, .inl rfl, .inl rfl, HB1.out.alloc HB1.out.size _⟩
    · rw [hp] at HP1
      simp only at HP1
      obtain ⟨A9, c9, rfl, hc9⟩ := slice_ofN HOWN.out
      have HEQ := Lib.hid (fun W => eqSpan p q 0 0 W)
      by_cases h00 : p = 0 ∧ q = 0
      · have HE : Hid (R = (O, 0)) := by unfold Hid; rw [HJ.out, hz h00]; unfold joinS; rw [if_pos rfl, List.append_nil]
        obtain ⟨rfl, rfl⟩ := h00
        clear hz hm hp HCS HPR HEL HJ
        go_wp2_with fail
        refine (HP1.out _).mono ?_
        rintro e w1 ⟨rfl, hb1⟩
        have HB1 := Lib.hid (HB.out.trans (hb1.mono hsw))
        have hown1 := ownsRow_below HOWN.out hb1
        clear hb1 HB HP1 HOWN
        have hs1 := HB1.out.size
        obtain ⟨A, c8, e8, hsp, hfar⟩ := own_spD (hown1.alloc (.cells #[.int .i64 0, .int .i64 0] 44))
        injection e8 with e8 _ e9
        subst e8 e9
        have HSP := Lib.hid hsp
        have HFR := Lib.hid hfar
        clear hsp hfar hown1
        go_wp2
        go_ret2
        rw [HE.out]
        exact ⟨_, _, rfl, HSP.out, HFR.out, HB1.out.alloc hs1 _⟩
      · have dq : ((p == 0) && (q == 0)) = false := by
          cases h1 : (p == 0) with
          | false => rfl
          | true => cases h2 : (q == 0) with
            | false => rfl
            | true => exact absurd ⟨by simpa using h1, by simpa using h2⟩ h00
        obtain ⟨hm0, hm1⟩ := hm h00
        go_wp2_with fail
        refine (HP1.out _).mono ?_
        rintro e w1 ⟨rfl, hb1⟩
        have HB1 := Lib.hid (HB.out.trans (hb1.mono hsw))
        have hown1 := ownsRow_below HOWN.out hb1
        clear hb1 HB HP1 HOWN
        have hs1 := HB1.out.size
        have hd : ((p == 0) = true ∧ (q == 0) = false) ∨ (p == 0) = false := by
          cases h1 : (p == 0) with
          | false => exact .inr rfl
          | true => exact .inl ⟨rfl, by rw [h1] at dq; simpa using dq⟩
        clear dq
        by_cases h16 : O.length = 16
        · have g16 : (((O.length : Nat) : Int) == 16) = true := by rw [h16]; rfl
          have HE : Hid (R = ([], 7)) := by unfold Hid; rw [HJ.out, h16, hm0]; rfl
          clear h00 hm0 hm1 hz hp HCS HPR HEL HJ h16
          rcases hd with ⟨d1, d2⟩ | d1
          all_goals (
            go_wp2
            go_ret2
            rw [HE.out]
            exact ⟨none, 0, rfl, .inl rfl, .inl rfl, HB1.out.alloc hs1 _⟩)
        · have g16 : (((O.length : Nat) : Int) == 16) = false := by simp; omega
          have hO2 : O.length + 1 ≤ 16 := by omega
          have HJ2 : Hid (R = joinS (O ++ [⟨p, q⟩]) (resvI (16 - (O ++ [(⟨p, q⟩ : SP)]).length) l (n + 16))) := by
            unfold Hid
            rw [HJ.out, List.length_append, List.length_cons, List.length_nil, show 16 - O.length = (16 - (O.length + (0 + 1))) + 1 by omega, hm1, joinS_join]
          have HA2 := Lib.hid (spD_app O p q)
          have hq1 : IntKind.i64.wrap (n + 16) = n + 16 := IntWalk.i64_in _ (by omega)
          have HA1 := Lib.hid (hown1.alloc (.cells #[.int .i64 p, .int .i64 q] 44))
          have HB2 := Lib.hid (HB1.out.alloc hs1 (.cells #[.int .i64 p, .int .i64 q] 44))
          have HHZ : Hid ((w1.alloc (.cells #[.int .i64 p, .int .i64 q] 44)).heap.size = w1.heap.size + 1) := sz_alloc _ _
          have HSZ := Lib.hid HB2.out.size
          have HON : Hid (∀ u ∈ (#[.int .i64 p, .int .i64 q] : Array Value).toList, u.oneCell' = true) := by
            intro u hu
            simp at hu
            rcases hu with rfl | rfl <;> rfl
          clear h00 hm0 hm1 hz hp HCS HPR HJ h16 hown1 HB1 hs1
          rcases hd with ⟨d1, d2⟩ | d1
          all_goals (
            go_wp2_with (at_builtin; refine append_newB rfl (.tmp 28) (.tmp 30) 26 rfl 44 2 16 HEL w.heap.size (.slice A9 O.length c9) O.length (spD O) rfl HA1.out #[.int .i64 p, .int .i64 q] rfl HON.out (w1.heap.size + 1) HHZ.out rfl (by unfold maxLen; omega) (by omega) HSZ.out ?_; intro v5 w5 ho5 hm5; have HO5 := Lib.hid ho5; have HM5 : Hid (Below w.heap.size w w5) := (HB2.out.alloc HSZ.out _).grown hm5 (by rw [sz_alloc]; have := HSZ.out; omega) (fun g hg => (HA1.out.lt g hg).1); clear ho5 hm5)
            go_roundw
            case rel => exact ⟨n + 16, O ++ [⟨p, q⟩], rfl, by omega, by omega, by rw [List.length_append]; exact hO2, by rw [HA2.out, List.length_append]; exact HO5.out, HJ2, HM5.out⟩
            case measure => simp [intOf]; omega)

set_option maxHeartbeats 800000 in
set_option maxRecDepth 100000 in
theorem dsize_any (s : ByteArray) (w : World) (hs : s.size ≤ 1099511627776) :
    Calls Try.prog 8 #[.string s] w fun e w' => e = .returned (.tuple #[.int .i64 (readH s.data.toList).1.tot, .int .i64 ((readH s.data.toList).2 : Int)]) ∧ Below w.heap.size w w' := by
  have HRD := Lib.hid (fun W => hread_any s W (by unfold maxLen; omega))
  generalize readH s.data.toList = D at *
  obtain ⟨h, de⟩ := D
  obtain ⟨n, st, sg, rv, bo, tx, sz⟩ := h
  go_enter Try.func8, Try.ntmps8
  go_wp2_with fail
  refine (HRD.out _).mono ?_
  rintro e w1 ⟨rfl, hb1⟩
  have hz1 := hb1.size
  have HB1 := Lib.hid hb1
  clear hb1 HRD
  have HAN := Lib.hid (Arr.new w1 54 (#[.int .i64 0, .int .i64 0, .int .i64 0, .int .i64 0, .int .i64 0, .int .i64 0, .int .i64 0]))
  have HH := Lib.hid (HAN.out.row (#[.int .i64 n, .int .i64 st, .int .i64 sg, .int .i64 rv, .int .i64 bo, .int .i64 tx, .int .i64 sz] : Array Value))
  have HB : Hid (Below w.heap.size w ((w1.alloc (.cells (#[.int .i64 0, .int .i64 0, .int .i64 0, .int .i64 0, .int .i64 0, .int .i64 0, .int .i64 0]) 54)).setRow w1.heap.size #[.int .i64 n, .int .i64 st, .int .i64 sg, .int .i64 rv, .int .i64 bo, .int .i64 tx, .int .i64 sz])) := below_setRow (HB1.out.alloc hz1 _) hz1 _
  go_upto_region 2 with (refine wpList_store_row rfl 54 (.tmp 4) (.tmp 9) rfl w1.heap.size #[.int .i64 n, .int .i64 st, .int .i64 sg, .int .i64 rv, .int .i64 bo, .int .i64 tx, .int .i64 sz] rfl rfl _ _ HAN.out (infoH hd0) rfl (hdC_one ⟨n, st, sg, rv, bo, tx, sz⟩) ?_)
  have c0 := HH.out.cell 0
  clear HAN HB1
  generalize (w1.alloc (.cells (#[.int .i64 0, .int .i64 0, .int .i64 0, .int .i64 0, .int .i64 0, .int .i64 0, .int .i64 0]) 54)).setRow w1.heap.size #[.int .i64 n, .int .i64 st, .int .i64 sg, .int .i64 rv, .int .i64 bo, .int .i64 tx, .int .i64 sz] = W2 at *
  replace c0 : W2.cell? ⟨w1.heap.size, 0, none⟩ = some (.int .i64 n) := c0
  go_wp2
  go_ret2
  exact ⟨rfl, HB.out⟩
end Go.Proofs.Ytgfdbmbgldeljaa
