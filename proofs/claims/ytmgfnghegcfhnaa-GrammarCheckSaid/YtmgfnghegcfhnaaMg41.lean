/- What package grammar's Unit and Node return, and strings.Cut at one sign. Conditions: strings of at most 2^40 bytes. -/
import Derived.Test.YtmgfnghegcfhnaaMg40
import Derived.Laws.IdiomStrings
import Derived.Deep.QuietTactic
import Derived.BigQuiet
import Derived.IntWalk
namespace Go.Proofs.Ytmgfnghegcfhnaa
open Go.RowKit

/-- Where the first sign is. -/
theorem indexByte_sign : ∀ l : List UInt8, Lib.indexByte l 64 = if (unitR l).2 = true then (((ahead l).length : Nat) : Int) else -1
  | [] => rfl
  | c :: l => by
    rw [Lib.indexByte]
    by_cases h : c = 64
    · subst h; rfl
    · have e1 : unitR (c :: l) = unitR l := if_neg h
      have e2 : ahead (c :: l) = c :: ahead l := if_neg h
      rw [e1, e2, indexByte_sign l]
      have hb : (c == 64) = false := by simpa using h
      cases hu : (unitR l).2 with
      | true => simp [hb]
      | false => simp [hb]
theorem cut_is (l : List UInt8) (h : (unitR l).2 = true) : ahead l = l.take (ahead l).length ∧ (unitR l).1 = l.drop ((ahead l).length + 1) ∧ (ahead l).length + 1 ≤ l.length := by
  obtain ⟨h1, _⟩ := unit_ahead l
  rw [if_pos h] at h1
  refine ⟨?_, ?_, ?_⟩
  · conv => rhs; rw [h1]
    rw [show (ahead (ahead l ++ 64 :: (unitR l).1)).length = (ahead l).length by rw [← h1], List.take_left]
  · conv => rhs; rw [h1]
    rw [show (ahead (ahead l ++ 64 :: (unitR l).1)).length = (ahead l).length by rw [← h1], List.drop_append, List.drop_of_length_le (Nat.le_succ _), Nat.add_sub_cancel_left]
    rfl
  · have := congrArg List.length h1
    rw [List.length_append, List.length_cons] at this
    omega
theorem cut_no (l : List UInt8) (h : (unitR l).2 = false) : ahead l = l ∧ (unitR l).1 = [] := by
  obtain ⟨h1, h2⟩ := unit_ahead l
  rw [if_neg (by rw [h]; decide), List.append_nil] at h1
  exact ⟨h1.symm, h2 h⟩

set_option maxHeartbeats 800000 in
set_option maxRecDepth 100000 in
/-- internal/stringslite.Cut at the sign. -/
theorem scut64_lite (s : ByteArray) (w : World) (hl : s.size ≤ 1099511627776) : Calls Try.prog 37 #[.string s, .string ⟨#[64]⟩] w fun e w' =>
    e = .returned (.tuple #[.string ⟨(ahead s.data.toList).toArray⟩, .string ⟨(unitR s.data.toList).1.toArray⟩, .bool (unitR s.data.toList).2]) ∧ ∃ n, w' = w.drewN n := by
  have hz := indexByte_sign s.data.toList
  have hlen : s.data.toList.length = s.size := rfl
  have HI := Lib.hid (Try.stringslite_Index_one s 64)
  rw [hz] at HI
  have hcut := cut_is s.data.toList
  have hno := cut_no s.data.toList
  rw [hlen] at hcut
  have HS : Hid ((⟨(s.data.toList).toArray⟩ : ByteArray) = s) := rfl
  cases hu : (unitR s.data.toList).2 with
  | true =>
    rw [hu, if_pos rfl] at HI
    obtain ⟨h1, h2, h3⟩ := hcut hu
    have HX1 := Lib.hid (ext_upto s (ahead s.data.toList).length)
    have HX2 := Lib.hid (ext_from s ((ahead s.data.toList).length + 1))
    rw [← h1] at HX1
    rw [← h2] at HX2
    generalize (unitR s.data.toList).1 = u at *
    generalize (ahead s.data.toList).length = z at *
    generalize ahead s.data.toList = a at *
    have c0 : (0 : Int) ≤ z := by omega
    have c1 : (z : Int) ≤ s.size := by omega
    have c2 : (0 : Int) ≤ (z : Int) + 1 := by omega
    have c3 : (z : Int) + 1 ≤ s.size := by omega
    have d0 : decide ((0 : Int) ≤ (z : Int)) = true := decide_eq_true (by omega)
    clear hz hlen h1 h2 hcut hno hu
    go_enter Try.func37, Try.ntmps37
    go_wp2_with fail
    refine (HI.out _).mono ?_
    rintro e w1 ⟨rfl, rfl⟩
    go_wp2
    go_quiet (fail)
    go_wp2
    go_ret3
    exact ⟨by first | (rw [← HX1.out, ← HX2.out]; rfl) | (rw [← HX1.out, ← HX2.out]), _, rfl⟩
  | false =>
    rw [hu, if_neg (by decide)] at HI
    obtain ⟨h1, h2⟩ := hno hu
    rw [h1, h2]
    clear hz hlen h1 h2 hcut hno hu
    go_enter Try.func37, Try.ntmps37
    go_wp2_with fail
    refine (HI.out _).mono ?_
    rintro e w1 ⟨rfl, rfl⟩
    go_wp2
    go_ret3
    exact ⟨rfl, 0, rfl⟩
set_option maxHeartbeats 800000 in
set_option maxRecDepth 100000 in
theorem scut64_any (s : ByteArray) (w : World) (hl : s.size ≤ 1099511627776) : Calls Try.prog 21 #[.string s, .string ⟨#[64]⟩] w fun e w' =>
    e = .returned (.tuple #[.string ⟨(ahead s.data.toList).toArray⟩, .string ⟨(unitR s.data.toList).1.toArray⟩, .bool (unitR s.data.toList).2]) ∧ Below w.heap.size w w' := by
  have HI := Lib.hid (scut64_lite s w hl)
  generalize (unitR s.data.toList).2 = d at *
  generalize (⟨(ahead s.data.toList).toArray⟩ : ByteArray) = x at *
  generalize (⟨(unitR s.data.toList).1.toArray⟩ : ByteArray) = y at *
  go_enter Try.func21, Try.ntmps21
  go_wp2_with fail
  refine HI.out.mono ?_
  rintro e w1 ⟨rfl, n, rfl⟩
  go_wp2
  go_ret3
  exact ⟨rfl, below_drewN w n⟩

set_option maxHeartbeats 800000 in
set_option maxRecDepth 100000 in
theorem gunit_any (s : ByteArray) (w : World) (hs : s.size ≤ 1099511627776) :
    Calls Try.prog 7 #[.string s] w fun e w' => e = .returned (.tuple #[.string ⟨(unitR s.data.toList).1.toArray⟩, .bool (unitR s.data.toList).2]) ∧ Below w.heap.size w w' := by
  have HI := Lib.hid (scut64_any s w hs)
  generalize (unitR s.data.toList).2 = d at *
  generalize (⟨(ahead s.data.toList).toArray⟩ : ByteArray) = x at *
  generalize (⟨(unitR s.data.toList).1.toArray⟩ : ByteArray) = y at *
  go_enter Try.func7, Try.ntmps7
  go_wp2_with fail
  refine HI.out.mono ?_
  rintro e w1 ⟨rfl, hb⟩
  go_wp2
  go_ret2
  exact ⟨rfl, hb⟩

theorem node_cons (s : ByteArray) : nodeR s.data.toList = (decide ((s.size : Int) ≤ 31) && (consR plaC (ahead s.data.toList) && (headC (ahead s.data.toList) && (!(unitR s.data.toList).2 || consR plaC (unitR s.data.toList).1)))) := by
  have e : s.data.toList.length = s.size := rfl
  have h2 : decide ((s.size : Int) ≤ 31) = decide (s.size ≤ 31) := by
    have : ((s.size : Int) ≤ 31) = (s.size ≤ 31) := by apply propext; omega
    simp only [this]
  obtain ⟨_, h3⟩ := unit_ahead s.data.toList
  unfold nodeR consR
  rw [e, h2, List.all_append]
  have h4 : headC (ahead s.data.toList) = true → (ahead s.data.toList).isEmpty = false := fun h => by
    cases ha : ahead s.data.toList with
    | nil => rw [ha] at h; cases h
    | cons a l => rfl
  have h5 : (unitR s.data.toList).2 = false → (unitR s.data.toList).1.all (fun c => plaC c.toNat) = true := fun h => by rw [h3 h]; rfl
  cases h6 : headC (ahead s.data.toList) with
  | false => cases decide (s.size ≤ 31) <;> cases (!(ahead s.data.toList).isEmpty && (ahead s.data.toList).all fun c => plaC c.toNat) <;> rfl
  | true =>
    rw [h4 h6]
    cases h7 : (unitR s.data.toList).2 with
    | false =>
      rw [h5 h7]
      cases decide (s.size ≤ 31) <;> cases ((ahead s.data.toList).all fun c => plaC c.toNat) <;> rfl
    | true =>
      cases decide (s.size ≤ 31) <;> cases ((ahead s.data.toList).all fun c => plaC c.toNat) <;> cases (unitR s.data.toList).1.isEmpty <;> cases ((unitR s.data.toList).1.all fun c => plaC c.toNat) <;> rfl
theorem head_at (x : ByteArray) (h : 0 < x.size) : headC x.data.toList = letC x[0].toNat := by
  have h' : 0 < x.data.toList.length := h
  have := byte19 x h
  cases hl : x.data.toList with
  | nil => rw [hl] at h'; exact absurd h' (Nat.lt_irrefl _)
  | cons c l => rw [hl] at this; rw [← this]; rfl

set_option maxHeartbeats 1600000 in
set_option maxRecDepth 100000 in
theorem gnode_any (s : ByteArray) (w : World) (hs : s.size ≤ 1099511627776) :
    Calls Try.prog 9 #[.string s] w fun e w' => e = .returned (.bool (nodeR s.data.toList)) ∧ Below w.heap.size w w' := by
  have HI := Lib.hid (scut64_any s w hs)
  have HE := Lib.hid (node_cons s)
  have HL := unit_len s.data.toList
  have hlen : s.data.toList.length = s.size := rfl
  obtain ⟨x, hx⟩ : ∃ x : ByteArray, x = ⟨(ahead s.data.toList).toArray⟩ := ⟨_, rfl⟩
  obtain ⟨y, hy⟩ : ∃ y : ByteArray, y = ⟨(unitR s.data.toList).1.toArray⟩ := ⟨_, rfl⟩
  have hx1 : ahead s.data.toList = x.data.toList := by rw [hx]
  have hy1 : (unitR s.data.toList).1 = y.data.toList := by rw [hy]
  have hxs : x.size ≤ 1099511627776 := by
    have : x.size = (ahead s.data.toList).length := by rw [hx1]; rfl
    have := HL.1
    omega
  have hys : y.size ≤ 1099511627776 := by
    have e : y.size = (unitR s.data.toList).1.length := by rw [hy1]; rfl
    have h1 := HL.1
    cases hu : (unitR s.data.toList).2 with
    | true => rw [hu, if_pos rfl] at h1; omega
    | false =>
      have e2 : y.size = 0 := by rw [e, HL.2 hu]; rfl
      omega
  rw [← hx, ← hy] at HI
  rw [hx1, hy1] at HE
  have HC1 : Hid (∀ W, Calls Try.prog 22 #[.string x, .int .i64 1] W fun e w' => e = .returned (.bool (consR plaC x.data.toList)) ∧ Below W.heap.size W w') := fun W => consists_any plaC 1 (.inl ⟨rfl, rfl⟩) x W hxs
  have HC2 : Hid (∀ W, Calls Try.prog 22 #[.string y, .int .i64 1] W fun e w' => e = .returned (.bool (consR plaC y.data.toList)) ∧ Below W.heap.size W w') := fun W => consists_any plaC 1 (.inl ⟨rfl, rfl⟩) y W hys
  have HX0 : Hid (consR plaC x.data.toList = true → 0 < x.size) := fun h => by
    by_cases h0 : x.data.toList = []
    · rw [h0] at h; cases h
    · exact List.length_pos_iff.2 h0
  have HK := Lib.hid (fun c h W => kindsOf_any c h W)
  have HH := Lib.hid (head_at x)
  have HIX : Hid (∀ (c : Nat) (W : World), (Instr.index 46 (.agg #[.bool (letC c), .bool (plaC c), .bool (prpC c)]) (.int .i64 0)).run Try.prog W = .ok (.bool (letC c)) W) := fun c W => idxB3 _ _ _ _ 0 (by decide) rfl W
  generalize nodeR s.data.toList = R at *
  generalize (unitR s.data.toList).2 = d at *
  generalize consR plaC x.data.toList = z1 at *
  generalize consR plaC y.data.toList = z2 at *
  generalize headC x.data.toList = z3 at *
  clear HL hlen hx hy hx1 hy1 hxs hys
  have HB0 := Lib.hid (Below.refl w.heap.size w)
  cases d1 : decide ((s.size : Int) ≤ 31) with
  | false =>
    rw [d1] at HE
    go_enter Try.func9, Try.ntmps9
    go_wp2_with fail
    refine HI.out.mono ?_
    rintro e w1 ⟨rfl, hb⟩
    go_wp2
    go_ret
    exact ⟨by rw [HE.out]; rfl, hb⟩
  | true =>
    rw [d1] at HE
    cases z1 with
    | false =>
      go_enter Try.func9, Try.ntmps9
      go_wp2_with fail
      refine HI.out.mono ?_
      rintro e w1 ⟨rfl, hb⟩
      go_wp2_with fail
      refine (HC1.out _).mono ?_
      rintro e w2 ⟨rfl, hb2⟩
      have HB2 := Lib.hid (hb.trans (hb2.mono hb.size))
      clear hb hb2
      go_wp2
      go_ret
      exact ⟨by rw [HE.out]; rfl, HB2.out⟩
    | true =>
      have hx0 := HX0.out rfl
      have hx0i : (0 : Int) < (x.size : Int) := by omega
      have HHE := Lib.hid (HH.out hx0)
      have HK := Lib.hid (fun W => HK.out x[0].toNat (toNat_lt19 _) W)
      have hix := HIX.out x[0].toNat
      cases hlc : letC x[0].toNat with
      | false =>
        rw [hlc] at HHE hix
        have HK : Hid (∀ W, Calls Try.prog 23 #[.int .u8 ((x[0].toNat : Nat) : Int)] W fun e w' => e = .returned (.agg #[.bool false, .bool (plaC x[0].toNat), .bool (prpC x[0].toNat)]) ∧ Below W.heap.size W w') := fun W => by rw [← hlc]; exact HK.out W
        clear hlc
        have HV : Hid (R = false) := by unfold Hid; rw [HE.out, HHE.out]; rfl
        clear HH HIX HX0 HHE HE
        go_enter Try.func9, Try.ntmps9
        go_wp2_with fail
        refine HI.out.mono ?_
        rintro e w1 ⟨rfl, hb⟩
        go_wp2_with fail
        refine (HC1.out _).mono ?_
        rintro e w2 ⟨rfl, hb2⟩
        have HB2 := Lib.hid (hb.trans (hb2.mono hb.size))
        clear hb hb2
        go_wp2_with fail
        refine (HK.out _).mono ?_
        rintro e w3 ⟨rfl, hb3⟩
        have HB3 := Lib.hid (HB2.out.trans (hb3.mono HB2.out.size))
        clear hb3
        go_wp2
        go_ret
        exact ⟨by rw [HV.out]; rfl, HB3.out⟩
      | true =>
        rw [hlc] at HHE hix
        have HK : Hid (∀ W, Calls Try.prog 23 #[.int .u8 ((x[0].toNat : Nat) : Int)] W fun e w' => e = .returned (.agg #[.bool true, .bool (plaC x[0].toNat), .bool (prpC x[0].toNat)]) ∧ Below W.heap.size W w') := fun W => by rw [← hlc]; exact HK.out W
        clear hlc
        have HV : Hid (R = (!d || z2)) := by unfold Hid; rw [HE.out, HHE.out]; rfl
        clear HH HIX HX0 HHE HE
        cases d with
        | false =>
          go_enter Try.func9, Try.ntmps9
          go_wp2_with fail
          refine HI.out.mono ?_
          rintro e w1 ⟨rfl, hb⟩
          go_wp2_with fail
          refine (HC1.out _).mono ?_
          rintro e w2 ⟨rfl, hb2⟩
          have HB2 := Lib.hid (hb.trans (hb2.mono hb.size))
          clear hb hb2
          go_wp2_with fail
          refine (HK.out _).mono ?_
          rintro e w3 ⟨rfl, hb3⟩
          have HB3 := Lib.hid (HB2.out.trans (hb3.mono HB2.out.size))
          clear hb3
          go_wp2
          go_ret
          exact ⟨by rw [HV.out]; rfl, HB3.out⟩
        | true =>
          go_enter Try.func9, Try.ntmps9
          go_wp2_with fail
          refine HI.out.mono ?_
          rintro e w1 ⟨rfl, hb⟩
          go_wp2_with fail
          refine (HC1.out _).mono ?_
          rintro e w2 ⟨rfl, hb2⟩
          have HB2 := Lib.hid (hb.trans (hb2.mono hb.size))
          clear hb hb2
          go_wp2_with fail
          refine (HK.out _).mono ?_
          rintro e w3 ⟨rfl, hb3⟩
          have HB3 := Lib.hid (HB2.out.trans (hb3.mono HB2.out.size))
          clear hb3
          go_wp2_with fail
          refine (HC2.out _).mono ?_
          rintro e w4 ⟨rfl, hb4⟩
          have HB4 := Lib.hid (HB3.out.trans (hb4.mono HB3.out.size))
          clear hb4
          go_wp2
          go_ret
          exact ⟨by rw [HV.out]; rfl, HB4.out⟩
end Go.Proofs.Ytmgfnghegcfhnaa
