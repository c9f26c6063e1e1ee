/- What the document's Erase does. Condition: fewer than 2^62 operations. -/
import Derived.Test.YtidnbpehhpakcaaNorP
import Derived.Deep.QuietTactic
import Derived.BigQuiet
namespace Go.Proofs.Ytidnbpehhpakcaa
open Go.RowKit

/-- What blown answers, and what becomes of the Chip. -/
def Blown (g : Nat) (B : List UInt8) (on : Bool) (fu : Int) (t : ByteArray) (ops : Int) (torn : Bool) (w : World) : Prop :=
  Calls Try.prog 61 #[.pointer (some ⟨g, 0, none⟩)] w fun e w' => e = .returned (.bool torn) ∧ Arr w' g 65 (refC ⟨B.toArray⟩ on fu t ops) ∧ w.grownBy w' (some g)
/-- What the document's Erase makes of a byte. -/
def erG (torn : Bool) (t : ByteArray) (i : Nat) (x : UInt8) : UInt8 := if torn = false then 255 else if t.size = 0 then x else erT i x (cyc t i)

theorem set_getD (l : List UInt8) (k : Nat) : l.set k (l.getD k 0) = l := by
  by_cases h : k < l.length
  · rw [getD_lt _ h]; exact List.set_getElem_self h
  · exact List.set_eq_of_length_le (by omega)
set_option maxHeartbeats 1600000 in
set_option maxRecDepth 100000 in
theorem referase_core (g : Nat) (B : List UInt8) (on : Bool) (fu : Int) (t : ByteArray) (ops : Int) (torn : Bool) (x : Nat) (w : World) (S0 : Array Value) (hA0 : Arr w g 65 S0) (h1 : w.cell? ⟨g, 1, none⟩ = some (.bool true)) (hbl : Blown g B on fu t ops torn w) (hx : x < 48) (hB : B.length = 24576) :
    Calls Try.prog 52 #[.pointer (some ⟨g, 0, none⟩), .int .i64 (x : Int)] w fun e w' =>
      e = .returned (.int .i64 (if torn = true then 4 else 0)) ∧ Arr w' g 65 (refC ⟨(mapAt B (x * 512) 512 (erG torn t)).toArray⟩ on fu t ops) ∧ w.grownBy w' (some g) := by
  have HBL := Lib.hid hbl
  have hgl0 := hA0.lt
  obtain ⟨y, hy⟩ : ∃ y, x * 512 = y := ⟨_, rfl⟩
  have hmul : (x : Int) * 512 = (y : Int) := by omega
  have hy2 : y + 512 ≤ 24576 := by omega
  have hyI : (y : Int) + 512 ≤ 24576 := by omega
  rw [hy]
  have d1 : decide ((x : Int) < 0) = false := decide_eq_false (by omega)
  have d2 : decide (48 ≤ (x : Int)) = false := decide_eq_false (by omega)
  have HS : Hid ((⟨B.toArray⟩ : ByteArray).size = 24576) := by unfold Hid; rw [arr_size']; exact hB
  have HEX := Lib.hid (arr_extract B y 512)
  have HPM := Lib.hid (put_map B y 512 (erG torn t) (by omega))
  have HSP := Lib.hid (fun l => str_put B l y 512 hB)
  have HML : Hid (((B.drop y).take 512).length = 512) := by unfold Hid; rw [List.length_take, List.length_drop]; omega
  clear hy hbl hA0 hB
  go_enter Try.func52, Try.ntmps52
  go_wp2_with fail
  refine HBL.out.mono ?_
  rintro e w1 ⟨rfl, hA, hg⟩
  have HA := Lib.hid hA
  have HG := Lib.hid hg
  have c0 := ref_B hA
  have c3 := ref_torn hA
  have hgl := hA.lt
  have hS := HS.out
  generalize hSS : (⟨B.toArray⟩ : ByteArray) = S at *
  have HSS := Lib.hid hSS
  clear hSS hA hg h1 HS HBL
  generalize hM : (B.drop y).take 512 = M at *
  clear hM
  have hcv := run_bytes_of_string (P := Try.prog) w1 9 82 5 (S.extract y (y + 512)) Try.underlying9 Try.underlying82 Try.underlying5
  have hes : (S.extract y (y + 512)).size = 512 := by rw [ByteArray.size_extract]; omega
  rw [hes] at hcv
  generalize grownCap w1 512 0 5 = cap at hcv
  have hrow := row_new w1 (S.extract y (y + 512)) cap 5
  generalize (.cells (bytesRow (S.extract y (y + 512)) cap) 5 ((bytesRow (S.extract y (y + 512)) cap).size, (bytesRow (S.extract y (y + 512)) cap).size + 1) : Obj) = O at *
  rw [HEX.out] at hrow
  simp only at hrow
  obtain ⟨gb, hgb⟩ : ∃ gb, w1.heap.size = gb := ⟨_, rfl⟩
  have HROW : Hid (Row (w1.alloc O).drew gb M) := by rw [← hgb]; exact fun j hj => hrow j (by simpa using hj)
  have HBE : Hid (Below gb w1 (w1.alloc O).drew) := by rw [← hgb]; exact ((Below.refl _ _).alloc (Nat.le_refl _) O).drew
  rw [hgb] at hcv hgl
  have HGB := Lib.hid hgb
  clear hrow
  have HFIN : Hid (∀ wr w', Below gb w1 wr → Arr w' g 65 (refC ((S.extract 0 y) ++ (⟨(mapAt M 0 512 (erG torn t)).toArray⟩ : ByteArray) ++ (S.extract (y + 512) 24576)) on fu t ops) → wr.grownBy w' (some g) →
      Arr w' g 65 (refC ⟨(mapAt B y 512 (erG torn t)).toArray⟩ on fu t ops) ∧ w.grownBy w' (some g)) := by
    intro wr w' hb hA hg
    rw [HSP.out, HPM.out] at hA
    refine ⟨hA, grown_trans HG.out (grown_trans (grown_below ?_) hg)⟩
    rw [hgb]; exact hb
  have HPUT : Hid (∀ wr, Below gb w1 wr → Row wr gb (mapAt M 0 512 (erG torn t)) → Calls Try.prog 62 #[.pointer (some ⟨g, 0, none⟩), .int .i64 (y : Int), .slice (some ⟨gb, 0, none⟩) 512 cap] wr fun e w' =>
      e = .returned (.tuple #[]) ∧ Arr w' g 65 (refC ((S.extract 0 y) ++ (⟨(mapAt M 0 512 (erG torn t)).toArray⟩ : ByteArray) ++ (S.extract (y + 512) 24576)) on fu t ops) ∧ wr.grownBy w' (some g)) := by
    intro wr hb hR
    exact put_any g gb cap y 512 S on fu t ops _ wr (HA.out.below hb hgl) (by rw [mapAt_length]; exact HML.out) hR (by omega) hS
  have HC3 : Hid (∀ wr, Below gb w1 wr → wr.cell? ⟨g, 3, none⟩ = some (.string t)) := fun wr hb => ref_torn (HA.out.below hb hgl)
  have HROW0 : Hid (Row (w1.alloc O).drew gb (mapAt M 0 0 (erG torn t))) := by rw [mapAt_zero]; exact HROW.out
  clear HROW HA HG HSP HPM HEX HSS c3 hgb
  cases torn with
  | false =>
    go_wp2
    go_loopw [8] (fun i wr => ∃ k : Nat, k ≤ 512 ∧ i = .int .i64 k ∧ Row wr gb (mapAt M 0 k (erG false t)) ∧ Below gb w1 wr) (fun i _ => 512 - (intOf i).toNat)
    case atStart => exact ⟨0, Nat.zero_le _, rfl, HROW0.out, HBE.out⟩
    case round =>
      clear HROW0 HBE hcv
      obtain ⟨k, hk, rfl, hR, hb⟩ := hrel
      by_cases hlt : k < 512
      · have hkI : (k : Int) < 512 := by omega
        have hkl : k < (mapAt M 0 k (erG false t)).length := by rw [mapAt_length, HML.out]; exact hlt
        have hc := (hR k hkl).1
        have hfz := (hR k hkl).2
        generalize (((mapAt M 0 k (erG false t)).getD k 0).toNat : Int) = xv at hc
        have hMS := mapAt_succ M 0 k (erG false t) (by rw [HML.out]; omega)
        rw [Nat.zero_add] at hMS
        have hbt : gb < wr.heap.size := World.block_lt_of_cell? wr _ hc
        have hN := row_set hR k hkl 255
        rw [show (mapAt M 0 k (erG false t)).set k 255 = mapAt M 0 (k + 1) (erG false t) from by rw [← hMS, show erG false t k (M.getD k 0) = 255 from rfl]] at hN
        have HN : Hid (∀ nq, Row ((wr.drewN nq).setCell ⟨gb, k, none⟩ (.int .u8 255)) gb (mapAt M 0 (k + 1) (erG false t))) := fun nq j hj => hN j hj
        have HB2 : Hid (∀ nq, Below gb w1 ((wr.drewN nq).setCell ⟨gb, k, none⟩ (.int .u8 255))) := fun nq => (hb.trans ((below_drewN wr nq).mono (Nat.le_of_lt hbt))).setCell (p := ⟨gb, k, none⟩) (Nat.le_refl _) _
        have hc3 := HC3.out wr hb
        clear hN hR hb hMS hkl
        go_wp2
        go_quiet (fail)
        go_wp2
        go_roundw
        case rel => exact ⟨k + 1, by omega, by go_num, HN.out _, HB2.out _⟩
        case measure => simp [intOf]; omega
      · obtain rfl : k = 512 := by omega
        have HP := Lib.hid (HPUT.out wr hb hR)
        have HFI := Lib.hid (fun w' => HFIN.out wr w' hb)
        clear hR hb HPUT HFIN HC3
        go_wp2_with fail
        refine HP.out.mono ?_
        rintro e w2 ⟨rfl, hA2, hg2⟩
        have HF2 := Lib.hid (HFI.out w2 hA2 hg2)
        clear hA2 hg2
        go_wp2
        go_ret
        exact ⟨rfl, HF2.out⟩
  | true =>
    go_wp2
    go_loopw [8] (fun i wr => ∃ k : Nat, k ≤ 512 ∧ i = .int .i64 k ∧ Row wr gb (mapAt M 0 k (erG true t)) ∧ Below gb w1 wr) (fun i _ => 512 - (intOf i).toNat)
    case atStart => exact ⟨0, Nat.zero_le _, rfl, HROW0.out, HBE.out⟩
    case round =>
      clear HROW0 HBE hcv
      obtain ⟨k, hk, rfl, hR, hb⟩ := hrel
      by_cases hlt : k < 512
      · have hkI : (k : Int) < 512 := by omega
        have hkl : k < (mapAt M 0 k (erG true t)).length := by rw [mapAt_length, HML.out]; exact hlt
        have hc := (hR k hkl).1
        have hfz := (hR k hkl).2
        generalize (((mapAt M 0 k (erG true t)).getD k 0).toNat : Int) = xv at hc
        have hMS := mapAt_succ M 0 k (erG true t) (by rw [HML.out]; omega)
        rw [Nat.zero_add] at hMS
        have hbt : gb < wr.heap.size := World.block_lt_of_cell? wr _ hc
        by_cases ht : t.size = 0
        · have ht0 : decide ((0 : Int) < t.size) = false := decide_eq_false (by omega)
          have hN : Row wr gb (mapAt M 0 (k + 1) (erG true t)) := by
            rw [← hMS, show erG true t k (M.getD k 0) = (mapAt M 0 k (erG true t)).getD k 0 from by rw [mapAt_getD _ _ _ _ _ (by rw [HML.out]; exact hlt), if_neg (by omega)]; exact by unfold erG; rw [if_neg (by decide), if_pos ht], set_getD]
            exact hR
          have HN : Hid (∀ nq, Row (wr.drewN nq) gb (mapAt M 0 (k + 1) (erG true t))) := fun nq j hj => hN j hj
          have HB2 : Hid (∀ nq, Below gb w1 (wr.drewN nq)) := fun nq => hb.trans ((below_drewN wr nq).mono (Nat.le_of_lt hbt))
          have hc3 := HC3.out wr hb
          clear hN hR hb hMS hkl
          go_wp2
          go_quiet (fail)
          go_wp2
          go_roundw
          case rel => exact ⟨k + 1, by omega, by go_num, HN.out _, HB2.out _⟩
          case measure => simp [intOf]; omega
        · have ht0 : decide ((0 : Int) < t.size) = true := decide_eq_true (by omega)
          have ht0' : decide (0 < t.size) = true := decide_eq_true (by omega)
          obtain ⟨m, hm⟩ : ∃ m, k % t.size = m := ⟨_, rfl⟩
          have hm2 : m < t.size := by rw [← hm]; exact Nat.mod_lt _ (by omega)
          have hmi : (k : Int).tmod t.size = (m : Int) := by rw [Int.tmod_eq_emod_of_nonneg (by omega), ← hm]; simp
          have hmi2 : (k : Int) % t.size = (m : Int) := by rw [← hm]; simp
          have hmI : (m : Int) < t.size := by omega
          have hcy : cyc t k = t[m] := by unfold cyc; rw [hm, bs_get hm2]
          have hts : ¬ ((t.size : Int) = 0) := by omega
          have hbl := t[m].toNat_lt
          by_cases hod : t[m].toNat % 2 = 1
          · have ho1 : (t[m].toNat : Int) % 2 = 1 := by omega
            have ho2 : (t[m].toNat : Int).tmod 2 = 1 := by rw [Int.tmod_eq_emod_of_nonneg (by omega)]; omega
            have hN := row_set hR k hkl 255
            rw [show (mapAt M 0 k (erG true t)).set k 255 = mapAt M 0 (k + 1) (erG true t) from by rw [← hMS, show erG true t k (M.getD k 0) = 255 from by unfold erG; rw [if_neg (by decide), if_neg ht, hcy]; unfold erT; rw [if_pos hod]]] at hN
            have HN : Hid (∀ nq, Row ((wr.drewN nq).setCell ⟨gb, k, none⟩ (.int .u8 255)) gb (mapAt M 0 (k + 1) (erG true t))) := fun nq j hj => hN j hj
            have HB2 : Hid (∀ nq, Below gb w1 ((wr.drewN nq).setCell ⟨gb, k, none⟩ (.int .u8 255))) := fun nq => (hb.trans ((below_drewN wr nq).mono (Nat.le_of_lt hbt))).setCell (p := ⟨gb, k, none⟩) (Nat.le_refl _) _
            have hc3 := HC3.out wr hb
            clear hN hR hb hMS hkl
            go_wp2
            go_quiet (fail)
            go_wp2
            go_roundw
            case rel => exact ⟨k + 1, by omega, by go_num, HN.out _, HB2.out _⟩
            case measure => simp [intOf]; omega
          · have ho1 : (t[m].toNat : Int) % 2 = 0 := by omega
            have ho2 : (t[m].toNat : Int).tmod 2 = 0 := by rw [Int.tmod_eq_emod_of_nonneg (by omega)]; omega
            have hN : Row wr gb (mapAt M 0 (k + 1) (erG true t)) := by
              rw [← hMS, show erG true t k (M.getD k 0) = (mapAt M 0 k (erG true t)).getD k 0 from by rw [mapAt_getD _ _ _ _ _ (by rw [HML.out]; exact hlt), if_neg (by omega)]; exact by unfold erG; rw [if_neg (by decide), if_neg ht, hcy]; unfold erT; rw [if_neg hod], set_getD]
              exact hR
            have HN : Hid (∀ nq, Row (wr.drewN nq) gb (mapAt M 0 (k + 1) (erG true t))) := fun nq j hj => hN j hj
            have HB2 : Hid (∀ nq, Below gb w1 (wr.drewN nq)) := fun nq => hb.trans ((below_drewN wr nq).mono (Nat.le_of_lt hbt))
            have hc3 := HC3.out wr hb
            clear hN hR hb hMS hkl
            go_wp2
            go_quiet (fail)
            go_wp2
            go_roundw
            case rel => exact ⟨k + 1, by omega, by go_num, HN.out _, HB2.out _⟩
            case measure => simp [intOf]; omega
      · obtain rfl : k = 512 := by omega
        have HP := Lib.hid (HPUT.out wr hb hR)
        have HFI := Lib.hid (fun w' => HFIN.out wr w' hb)
        clear hR hb HPUT HFIN HC3
        go_wp2_with fail
        refine HP.out.mono ?_
        rintro e w2 ⟨rfl, hA2, hg2⟩
        have HF2 := Lib.hid (HFI.out w2 hA2 hg2)
        clear hA2 hg2
        go_wp2
        go_ret
        exact ⟨rfl, HF2.out⟩
/-- From what blown does to what an operation does. -/
theorem ref_oper {f : FuncId} {args : Array Value} (g : Nat) (c : St) (a n : Nat) (F : Nat → UInt8 → UInt8) (T : Nat → UInt8 → UInt8 → UInt8) (G : Bool → ByteArray → Nat → UInt8 → UInt8) (w : World) (h : RR w g c) (hon : c.on = true) (ho : c.ops < 4611686018427387904)
    (h1 : ∀ t i x, i < n → G false t i x = F i x) (h2 : ∀ t i x, i < n → t.size = 0 → G true t i x = x) (h3 : ∀ t i x, i < n → t.size ≠ 0 → G true t i x = T i x (cyc t i))
    (K : ∀ (B : List UInt8) (on : Bool) (fu : Int) (t : ByteArray) (ops : Int) (torn : Bool), B.length = 24576 → Blown g B on fu t ops torn w → Calls Try.prog f args w fun e w' => e = .returned (.int .i64 (if torn = true then 4 else 0)) ∧ Arr w' g 65 (refC ⟨(mapAt B a n (G torn t)).toArray⟩ on fu t ops) ∧ w.grownBy w' (some g)) :
    Calls Try.prog f args w fun e w' => e = .returned (.int .i64 ((oper c a n F T).2 : Int)) ∧ RR w' g (oper c a n F T).1 ∧ w.grownBy w' (some g) := by
  have hok' := oper_ok h.1 hon a n F T
  obtain ⟨hok, fu, t, hA, hfit⟩ := h
  have hfit := hfit hon
  match hf : c.fuse with
  | none =>
    rw [hf] at hfit
    obtain rfl : fu = -1 := hfit
    refine (K c.B c.on (-1) t ((c.ops : Int) + 1) false hok.1 (blown_none g _ c.on t c.ops w hA ho)).mono ?_
    rintro e w' ⟨rfl, hA', hg⟩
    rw [mapAt_congr _ _ _ _ F (fun i x hi => h1 t i x hi)] at hA'
    unfold oper at hok' ⊢
    simp only [hf] at hok' ⊢
    exact ⟨rfl, ⟨hok', _, _, hA', fun _ => rfl⟩, hg⟩
  | some (0, t') =>
    rw [hf] at hfit
    obtain ⟨rfl, rfl⟩ := hfit
    refine (K c.B false (-1) t ((c.ops : Int) + 1) true hok.1 (blown_zero g _ c.on t c.ops w hA ho)).mono ?_
    rintro e w' ⟨rfl, hA', hg⟩
    have e : mapAt c.B a n (G true t) = if t.size = 0 then c.B else mapAt c.B a n fun i x => T i x (cyc t i) := by
      by_cases ht : t.size = 0
      · rw [if_pos ht, mapAt_congr _ _ _ _ (fun _ x => x) (fun i x hi => h2 t i x hi ht)]
        refine List.ext_getElem (mapAt_length _ _ _ _) fun j q1 q2 => ?_
        rw [mapAt_get]
        split <;> rfl
      · rw [if_neg ht]
        exact mapAt_congr _ _ _ _ _ (fun i x hi => h3 t i x hi ht)
    rw [e] at hA'
    unfold oper at hok' ⊢
    simp only [hf] at hok' ⊢
    exact ⟨rfl, ⟨hok', _, _, hA', (fun e => nomatch e)⟩, hg⟩
  | some (k + 1, t') =>
    rw [hf] at hfit
    obtain ⟨rfl, rfl⟩ := hfit
    have hkk := hok.2.2 _ _ hf
    refine (K c.B c.on (((k + 1 : Nat) : Int) - 1) t ((c.ops : Int) + 1) false hok.1 (blown_more g _ c.on (k + 1) t c.ops w hA ho (by omega) hkk)).mono ?_
    rintro e w' ⟨rfl, hA', hg⟩
    rw [mapAt_congr _ _ _ _ F (fun i x hi => h1 t i x hi)] at hA'
    unfold oper at hok' ⊢
    simp only [hf] at hok' ⊢
    exact ⟨rfl, ⟨hok', _, _, hA', fun _ => ⟨by omega, rfl⟩⟩, hg⟩

set_option maxHeartbeats 800000 in
set_option maxRecDepth 100000 in
theorem referase_any (g : Nat) (c : St) (s : Int) (w : World) (h : RR w g c) (ho : c.ops < 4611686018427387904) : Calls Try.prog 52 #[.pointer (some ⟨g, 0, none⟩), .int .i64 s] w fun e w' =>
    e = .returned (.int .i64 ((erS c s).2 : Int)) ∧ RR w' g (erS c s).1 ∧ w.grownBy w' (some g) := by
  have HH := Lib.hid h
  by_cases hon : c.on = false
  · have HR : Hid (erS c s = (c, 4)) := by unfold Hid erS; rw [if_pos hon]
    rw [HR.out]
    obtain ⟨_, _, _, hA, _⟩ := h
    have h1 := ref_on hA
    rw [hon] at h1
    clear hA hon
    go_enter Try.func52, Try.ntmps52
    go_wp2
    go_ret
    exact ⟨rfl, HH.out, grown_refl _ _⟩
  · have hon2 : c.on = true := by simpa using hon
    obtain ⟨_, _, _, hA, _⟩ := id h
    have h1 := ref_on hA
    rw [hon2] at h1
    by_cases hs : s < 0 ∨ 48 ≤ s
    · have HR : Hid (erS c s = (c, 2)) := by unfold Hid erS; rw [if_neg hon, if_pos hs]
      rw [HR.out]
      by_cases hs0 : s < 0
      · have hd : decide (s < 0) = true := decide_eq_true hs0
        clear h hA hon hs hon2
        go_enter Try.func52, Try.ntmps52
        go_wp2
        go_ret
        exact ⟨rfl, HH.out, grown_refl _ _⟩
      · have hd : decide (s < 0) = false := decide_eq_false hs0
        have hd2 : decide (48 ≤ s) = true := decide_eq_true (by omega)
        clear h hA hon hs hon2
        go_enter Try.func52, Try.ntmps52
        go_wp2
        go_ret
        exact ⟨rfl, HH.out, grown_refl _ _⟩
    · obtain ⟨x, rfl⟩ := Int.eq_ofNat_of_zero_le (show 0 ≤ s by omega)
      have hx : x < 48 := by omega
      have HR : erS c (x : Int) = oper c (x * 512) 512 erF erT := by unfold erS; rw [if_neg hon, if_neg hs, Int.toNat_natCast]
      rw [HR]
      refine ref_oper g c (x * 512) 512 erF erT erG w h hon2 ho (fun t i x _ => rfl) (fun t i x _ ht => ?_) (fun t i x _ ht => ?_) (fun B on fu t ops torn hB hbl => referase_core g B on fu t ops torn x w _ hA h1 hbl hx hB)
      · unfold erG; rw [if_neg (by decide), if_pos ht]
      · unfold erG; rw [if_neg (by decide), if_neg ht]
end Go.Proofs.Ytidnbpehhpakcaa
