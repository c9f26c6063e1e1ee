/- What the document's Program does. Condition: fewer than 2^62 operations; a place of 64 bits. -/
import Derived.Test.YtidnbpehhpakcaaNorQ
namespace Go.Proofs.Ytidnbpehhpakcaa
open Go.RowKit

/-- What the document's Program makes of a byte. -/
def keepP (torn : Bool) (t : ByteArray) (i : Nat) : UInt8 := if torn = false then 0 else if t.size = 0 then 255 else cyc t i
def prG (s : ByteArray) (torn : Bool) (t : ByteArray) (i : Nat) (x : UInt8) : UInt8 := x &&& (s.data.toList.getD i 0 ||| keepP torn t i)
theorem str_nonempty {t : ByteArray} (ht : t.size ≠ 0) : (t.toList == []) = false := by
  rw [ByteArray.toList_eq]
  cases hd : t.data.toList with
  | nil => exact absurd (by rw [← Array.length_toList, hd]; rfl : t.data.size = 0) ht
  | cons x r => rfl

set_option maxHeartbeats 3200000 in
set_option maxRecDepth 100000 in
theorem refprogram_core (g : Nat) (B : List UInt8) (on : Bool) (fu : Int) (t : ByteArray) (ops : Int) (torn : Bool) (y : Nat) (s : ByteArray) (w : World) (S0 : ByteArray) (f0 : Int) (t0 : ByteArray) (o0 : Int) (hA0 : Arr w g 65 (refC S0 true f0 t0 o0)) (hS0 : S0.size = 24576) (hbl : Blown g B on fu t ops torn w) (hn0 : 0 < s.size) (hn1 : s.size ≤ 32) (hy2 : y + s.size ≤ 24576) (hpg : s.size ≤ 32 - y % 32) (hB : B.length = 24576) :
    Calls Try.prog 58 #[.pointer (some ⟨g, 0, none⟩), .int .i64 (y : Int), .string s] w fun e w' =>
      e = .returned (.int .i64 (if torn = true then 4 else 0)) ∧ Arr w' g 65 (refC ⟨(mapAt B y s.size (prG s torn t)).toArray⟩ on fu t ops) ∧ w.grownBy w' (some g) := by
  have HBL := Lib.hid hbl
  have hgl0 := hA0.lt
  have k0 := ref_B hA0
  have k1 := ref_on hA0
  have hse := str_nonempty (t := s) (by omega)
  obtain ⟨n, hn⟩ : ∃ n, s.size = n := ⟨_, rfl⟩
  have hnI : (s.size : Int) = n := by omega
  obtain ⟨pq, hpq⟩ : ∃ pq, y / 32 = pq := ⟨_, rfl⟩
  have hdv1 : (y : Int) / 32 = (pq : Int) := by omega
  have hdv2 : ((y : Int) + n - 1) / 32 = (pq : Int) := by omega
  have hyI : (y : Int) + n ≤ 24576 := by omega
  have d0 : decide ((32 : Int) < n) = false := decide_eq_false (by omega)
  have d1 : decide ((y : Int) < 0) = false := decide_eq_false (by omega)
  have d2 : decide ((24576 : Int) < y) = false := decide_eq_false (by omega)
  have d3 : decide ((24576 : Int) - y < n) = false := decide_eq_false (by omega)
  have HS : Hid ((⟨B.toArray⟩ : ByteArray).size = 24576) := by unfold Hid; rw [arr_size']; exact hB
  rw [hn] at hn0 hn1 hy2 hpg ⊢
  have HEX := Lib.hid (arr_extract B y n)
  have HPM := Lib.hid (put_map B y n (prG s torn t) (by omega))
  have HSP := Lib.hid (fun l => str_put B l y n hB)
  have HML : Hid (((B.drop y).take n).length = n) := by unfold Hid; rw [List.length_take, List.length_drop]; omega
  have hny : y < 24577 := by omega
  clear hpq hbl hA0 hB hpg
  go_enter Try.func58, Try.ntmps58
  go_wp2_with fail
  refine HBL.out.mono ?_
  rintro e w1 ⟨rfl, hA, hg⟩
  have HA := Lib.hid hA
  have HG := Lib.hid hg
  have c0 := ref_B hA
  have c3 := ref_torn hA
  have hgl := hA.lt
  have hS := HS.out
  generalize hSS : (⟨B.toArray⟩ : ByteArray) = S at *
  have HSS := Lib.hid hSS
  clear hSS hA hg k0 k1 HS HBL hS0 hdv1 hdv2 hse
  generalize hM : (B.drop y).take n = M at *
  clear hM
  have hcv := run_bytes_of_string (P := Try.prog) w1 9 82 5 (S.extract y (y + n)) Try.underlying9 Try.underlying82 Try.underlying5
  have hes : (S.extract y (y + n)).size = n := by rw [ByteArray.size_extract]; omega
  rw [hes] at hcv
  generalize grownCap w1 n 0 5 = cap at hcv
  have hrow := row_new w1 (S.extract y (y + n)) cap 5
  generalize (.cells (bytesRow (S.extract y (y + n)) cap) 5 ((bytesRow (S.extract y (y + n)) cap).size, (bytesRow (S.extract y (y + n)) cap).size + 1) : Obj) = O at *
  rw [HEX.out] at hrow
  simp only at hrow
  obtain ⟨gb, hgb⟩ : ∃ gb, w1.heap.size = gb := ⟨_, rfl⟩
  have HROW : Hid (Row (w1.alloc O).drew gb M) := by rw [← hgb]; exact fun j hj => hrow j (by simpa using hj)
  have HBE : Hid (Below gb w1 (w1.alloc O).drew) := by rw [← hgb]; exact ((Below.refl _ _).alloc (Nat.le_refl _) O).drew
  rw [hgb] at hcv hgl
  have HGB := Lib.hid hgb
  clear hrow
  have HFIN : Hid (∀ wr w', Below gb w1 wr → Arr w' g 65 (refC ((S.extract 0 y) ++ (⟨(mapAt M 0 n (prG s torn t)).toArray⟩ : ByteArray) ++ (S.extract (y + n) 24576)) on fu t ops) → wr.grownBy w' (some g) →
      Arr w' g 65 (refC ⟨(mapAt B y n (prG s torn t)).toArray⟩ on fu t ops) ∧ w.grownBy w' (some g)) := by
    intro wr w' hb hA hg
    rw [HSP.out, HPM.out] at hA
    refine ⟨hA, grown_trans HG.out (grown_trans (grown_below ?_) hg)⟩
    rw [hgb]; exact hb
  have HPUT : Hid (∀ wr, Below gb w1 wr → Row wr gb (mapAt M 0 n (prG s torn t)) → Calls Try.prog 62 #[.pointer (some ⟨g, 0, none⟩), .int .i64 (y : Int), .slice (some ⟨gb, 0, none⟩) n cap] wr fun e w' =>
      e = .returned (.tuple #[]) ∧ Arr w' g 65 (refC ((S.extract 0 y) ++ (⟨(mapAt M 0 n (prG s torn t)).toArray⟩ : ByteArray) ++ (S.extract (y + n) 24576)) on fu t ops) ∧ wr.grownBy w' (some g)) := by
    intro wr hb hR
    exact put_any g gb cap y n S on fu t ops _ wr (HA.out.below hb hgl) (by rw [mapAt_length]; exact HML.out) hR (by omega) hS
  have HC3 : Hid (∀ wr, Below gb w1 wr → wr.cell? ⟨g, 3, none⟩ = some (.string t)) := fun wr hb => ref_torn (HA.out.below hb hgl)
  have HROW0 : Hid (Row (w1.alloc O).drew gb (mapAt M 0 0 (prG s torn t))) := by rw [mapAt_zero]; exact HROW.out
  clear HROW HA HG HSP HPM HEX HSS c3 hgb
  cases torn with
  | false =>
    go_wp2
    go_loopw [9] (fun i wr => ∃ k : Nat, k ≤ n ∧ i = .int .i64 k ∧ Row wr gb (mapAt M 0 k (prG s false t)) ∧ Below gb w1 wr) (fun i _ => n - (intOf i).toNat)
    case atStart => exact ⟨0, Nat.zero_le _, rfl, HROW0.out, HBE.out⟩
    case round =>
      clear HROW0 HBE hcv
      obtain ⟨k, hk, rfl, hR, hb⟩ := hrel
      by_cases hlt : k < n
      · have hkI : (k : Int) < n := by omega
        have hdk : decide ((k : Int) < n) = true := decide_eq_true hkI
        have hks : k < s.size := by omega
        have hkl : k < (mapAt M 0 k (prG s false t)).length := by rw [mapAt_length, HML.out]; exact hlt
        obtain ⟨x, hx⟩ : ∃ x, M.getD k 0 = x := ⟨_, rfl⟩
        have hc := (hR k hkl).1
        have hfz := (hR k hkl).2
        rw [mapAt_getD _ _ _ _ _ (by rw [HML.out]; exact hlt), if_neg (by omega), hx] at hc
        have hMS := mapAt_succ M 0 k (prG s false t) (by rw [HML.out]; omega)
        rw [Nat.zero_add, hx] at hMS
        have hbt : gb < wr.heap.size := World.block_lt_of_cell? wr _ hc
        have hkeep : keepP false t k = 0 := rfl
        have hor : bits .or .u8 (s[k].toNat : Int) 0 = ((s[k] ||| 0).toNat : Int) := b_or s[k] 0
        have hand := b_and x (s[k] ||| 0)
        have hN := row_set hR k hkl (x &&& (s[k] ||| 0))
        rw [show (mapAt M 0 k (prG s false t)).set k (x &&& (s[k] ||| 0)) = mapAt M 0 (k + 1) (prG s false t) from by rw [← hMS]; unfold prG; rw [hkeep, bs_get hks]] at hN
        generalize (s[k] ||| 0) = z at *
        have HN : Hid (∀ nq, Row ((wr.drewN nq).setCell ⟨gb, k, none⟩ (.int .u8 ((x &&& z).toNat : Int))) gb (mapAt M 0 (k + 1) (prG s false t))) := fun nq j hj => hN j hj
        have HB2 : Hid (∀ nq, Below gb w1 ((wr.drewN nq).setCell ⟨gb, k, none⟩ (.int .u8 ((x &&& z).toNat : Int)))) := fun nq => (hb.trans ((below_drewN wr nq).mono (Nat.le_of_lt hbt))).setCell (p := ⟨gb, k, none⟩) (Nat.le_refl _) _
        have hc3 := HC3.out wr hb
        clear hN hR hb hMS hkl hx hkeep
        go_wp2
        go_region
        go_wp2
        go_roundw
        case rel => exact ⟨k + 1, by omega, by go_num, HN.out 0, (HB2.out 0).drew⟩
        case measure => simp [intOf]; omega
      · obtain rfl : k = n := by omega
        have hdk : decide ((k : Int) < k) = false := decide_eq_false (by omega)
        have HP := Lib.hid (HPUT.out wr hb hR)
        have HFI := Lib.hid (fun w' => HFIN.out wr w' hb)
        clear hR hb HPUT HFIN HC3
        go_wp2_with fail
        refine HP.out.mono ?_
        rintro e w2 ⟨rfl, hA2, hg2⟩
        have HF2 := Lib.hid (HFI.out w2 hA2 hg2)
        clear hA2 hg2
        go_wp2
        go_ret
        exact ⟨rfl, HF2.out⟩
  | true =>
    go_wp2
    go_loopw [9] (fun i wr => ∃ k : Nat, k ≤ n ∧ i = .int .i64 k ∧ Row wr gb (mapAt M 0 k (prG s true t)) ∧ Below gb w1 wr) (fun i _ => n - (intOf i).toNat)
    case atStart => exact ⟨0, Nat.zero_le _, rfl, HROW0.out, HBE.out⟩
    case round =>
      clear HROW0 HBE hcv
      obtain ⟨k, hk, rfl, hR, hb⟩ := hrel
      by_cases hlt : k < n
      · have hkI : (k : Int) < n := by omega
        have hdk : decide ((k : Int) < n) = true := decide_eq_true hkI
        have hks : k < s.size := by omega
        have hkl : k < (mapAt M 0 k (prG s true t)).length := by rw [mapAt_length, HML.out]; exact hlt
        obtain ⟨x, hx⟩ : ∃ x, M.getD k 0 = x := ⟨_, rfl⟩
        have hc := (hR k hkl).1
        have hfz := (hR k hkl).2
        rw [mapAt_getD _ _ _ _ _ (by rw [HML.out]; exact hlt), if_neg (by omega), hx] at hc
        have hMS := mapAt_succ M 0 k (prG s true t) (by rw [HML.out]; omega)
        rw [Nat.zero_add, hx] at hMS
        have hbt : gb < wr.heap.size := World.block_lt_of_cell? wr _ hc
        by_cases ht : t.size = 0
        · have ht0 : decide ((0 : Int) < t.size) = false := decide_eq_false (by omega)
          have ht0' : decide (0 < t.size) = false := decide_eq_false (by omega)
          have hkeep : keepP true t k = 255 := by unfold keepP; rw [if_neg (by decide), if_pos ht]
          have hor : bits .or .u8 (s[k].toNat : Int) 255 = ((s[k] ||| 255).toNat : Int) := b_or s[k] 255
          have hand := b_and x (s[k] ||| 255)
          have hN := row_set hR k hkl (x &&& (s[k] ||| 255))
          rw [show (mapAt M 0 k (prG s true t)).set k (x &&& (s[k] ||| 255)) = mapAt M 0 (k + 1) (prG s true t) from by rw [← hMS]; unfold prG; rw [hkeep, bs_get hks]] at hN
          generalize (s[k] ||| 255) = z at *
          have HN : Hid (∀ nq, Row ((wr.drewN nq).setCell ⟨gb, k, none⟩ (.int .u8 ((x &&& z).toNat : Int))) gb (mapAt M 0 (k + 1) (prG s true t))) := fun nq j hj => hN j hj
          have HB2 : Hid (∀ nq, Below gb w1 ((wr.drewN nq).setCell ⟨gb, k, none⟩ (.int .u8 ((x &&& z).toNat : Int)))) := fun nq => (hb.trans ((below_drewN wr nq).mono (Nat.le_of_lt hbt))).setCell (p := ⟨gb, k, none⟩) (Nat.le_refl _) _
          have hc3 := HC3.out wr hb
          clear hN hR hb hMS hkl hx hkeep
          go_wp2
          go_region
          go_wp2
          go_roundw
          case rel => exact ⟨k + 1, by omega, by go_num, HN.out 0, (HB2.out 0).drew⟩
          case measure => simp [intOf]; omega
        · have ht0 : decide ((0 : Int) < t.size) = true := decide_eq_true (by omega)
          have ht0' : decide (0 < t.size) = true := decide_eq_true (by omega)
          obtain ⟨m, hm⟩ : ∃ m, k % t.size = m := ⟨_, rfl⟩
          have hm2 : m < t.size := by rw [← hm]; exact Nat.mod_lt _ (by omega)
          have hmi : (k : Int).tmod t.size = (m : Int) := by rw [Int.tmod_eq_emod_of_nonneg (by omega), ← hm]; simp
          have hmi2 : (k : Int) % t.size = (m : Int) := by rw [← hm]; simp
          have hmI : (m : Int) < t.size := by omega
          have hcy : cyc t k = t[m] := by unfold cyc; rw [hm, bs_get hm2]
          have hts : ¬ ((t.size : Int) = 0) := by omega
          have hkeep : keepP true t k = t[m] := by unfold keepP; rw [if_neg (by decide), if_neg ht, hcy]
          have hor := b_or s[k] t[m]
          have hand := b_and x (s[k] ||| t[m])
          have hN := row_set hR k hkl (x &&& (s[k] ||| t[m]))
          rw [show (mapAt M 0 k (prG s true t)).set k (x &&& (s[k] ||| t[m])) = mapAt M 0 (k + 1) (prG s true t) from by rw [← hMS]; unfold prG; rw [hkeep, bs_get hks]] at hN
          generalize (s[k] ||| t[m]) = z at *
          have HN : Hid (∀ nq, Row ((wr.drewN nq).setCell ⟨gb, k, none⟩ (.int .u8 ((x &&& z).toNat : Int))) gb (mapAt M 0 (k + 1) (prG s true t))) := fun nq j hj => hN j hj
          have HB2 : Hid (∀ nq, Below gb w1 ((wr.drewN nq).setCell ⟨gb, k, none⟩ (.int .u8 ((x &&& z).toNat : Int)))) := fun nq => (hb.trans ((below_drewN wr nq).mono (Nat.le_of_lt hbt))).setCell (p := ⟨gb, k, none⟩) (Nat.le_refl _) _
          have hc3 := HC3.out wr hb
          clear hN hR hb hMS hkl hx hkeep
          go_wp2
          go_quiet (fail)
          have hc' : (wr.drewN nq).cell? ⟨gb, k, none⟩ = some (.int .u8 (x.toNat : Int)) := hc
          have hfz' : (wr.drewN nq).frozen? ⟨gb, k, none⟩ = false := hfz
          have HN3 := Lib.hid (HN.out nq)
          have HB3 := Lib.hid (HB2.out nq)
          generalize wr.drewN nq = wd at *
          clear hc hfz hc3 HN HB2
          go_wp2
          go_region
          go_wp2
          go_roundw
          case rel => exact ⟨k + 1, by omega, by go_num, HN3.out, HB3.out.drew⟩
          case measure => simp [intOf]; omega
      · obtain rfl : k = n := by omega
        have hdk : decide ((k : Int) < k) = false := decide_eq_false (by omega)
        have HP := Lib.hid (HPUT.out wr hb hR)
        have HFI := Lib.hid (fun w' => HFIN.out wr w' hb)
        clear hR hb HPUT HFIN HC3
        go_wp2_with fail
        refine HP.out.mono ?_
        rintro e w2 ⟨rfl, hA2, hg2⟩
        have HF2 := Lib.hid (HFI.out w2 hA2 hg2)
        clear hA2 hg2
        go_wp2
        go_ret
        exact ⟨rfl, HF2.out⟩
end Go.Proofs.Ytidnbpehhpakcaa
