/- What package token must do, said over nothing of its code; and the awake() of layer 10's statements. Conditions: those contracts. -/
import Derived.Test.YtdflflcidajenaaTkE
import Derived.Test.YtdflflcidajenaaTkRead
namespace Go.Proofs.Ytdflflcidajenaa
open Go.RowKit

/-- A slice of tokens that a call has returned. -/
def Ret10 (w : World) (v : Value) (r : List TK) : Prop := ∃ A cap, v = .slice A r.length cap ∧ RdTk w A r ∧ r.length ≤ cap ∧ cap ≤ maxLen
theorem Got10.ret {B : Nat} {w : World} {v : Value} {r : List TK} (h : Got10 B w v r) : Ret10 w v r := by
  obtain ⟨A, cap, rfl, hr⟩ := row_rdTk h
  refine ⟨A, cap, rfl, hr, ?_⟩
  rcases h.2 with ⟨e, hz⟩ | ⟨g, cap', cur, e, _, _, hn, hm, _⟩
  · injection e with _ e2 e3
    subst e3
    exact ⟨by omega, Nat.zero_le _⟩
  · injection e with _ _ e3
    subst e3
    exact ⟨hn, hm⟩
/-- The contracts of package token. -/
structure TokMust : Prop where
  put : ∀ (A : Option Addr) (cap : Nat) (l : List TK) (w : World), RdTk w A l → l.length ≤ cap → cap ≤ maxLen → (∀ k, k < l.length → (l.getD k tk0).nm.size ≤ 1048576 ∧ (l.getD k tk0).vl.size ≤ 1048576) → (∀ k, k < l.length → (l.getD k tk0).kd < 9223372036854775808 ∧ -9223372036854775808 ≤ (l.getD k tk0).kd) →
    Calls Try.prog 8 #[.slice A l.length cap] w fun e w' => e = .returned (.tuple #[.string (putR l).1, .string (putR l).2.1, .int .i64 ((putR l).2.2 : Int)]) ∧ Below w.heap.size w w'
  read : ∀ (s t : ByteArray) (w : World), s.size ≤ 1099511627776 → t.size ≤ 1099511627776 →
    Calls Try.prog 13 #[.string s, .string t] w fun e w' => ∃ v, e = .returned (.tuple #[v, .int .i64 ((readR 1024 s.data.toList t.data.toList).2 : Int)]) ∧ Ret10 w' v (readR 1024 s.data.toList t.data.toList).1 ∧ Below w.heap.size w w'
  plain : ∀ (A : Option Addr) (cap : Nat) (l : List TK) (w : World), RdTk w A l → l.length ≤ cap → cap ≤ maxLen → l.length ≤ 2000 → (∀ k, k < l.length → (l.getD k tk0).kd < 9223372036854775808 ∧ -9223372036854775808 ≤ (l.getD k tk0).kd) →
    Calls Try.prog 11 #[.slice A l.length cap] w fun e w' => ∃ v, e = .returned v ∧ Ret10 w' v (plainR l) ∧ Below w.heap.size w w'

/-- The tokens that awake() takes. -/
def l10 : List TK := [⟨1, ⟨#[]⟩, ⟨#[]⟩⟩, ⟨3, ⟨#[97]⟩, ⟨#[120, 121, 122]⟩⟩, ⟨4, ⟨#[]⟩, ⟨#[]⟩⟩, ⟨2, ⟨#[]⟩, ⟨#[]⟩⟩]
def s10 : ByteArray := ⟨#[0, 0, 0, 1, 0, 0, 0, 0, 0, 0, 0, 3, 0, 0, 0, 3, 0, 0, 0, 0, 120, 121, 122, 0, 0, 0, 0, 4, 0, 0, 0, 2, 0, 0, 0, 9]⟩
theorem put10 : putR l10 = (s10, ⟨#[97, 0]⟩, 0) := by rfl
theorem ok10 : okL (putB [] l10) := okL_putB l10 okL_nil
theorem read10 : readR 1024 s10.data.toList [97, 0] = (l10, 0) := by
  have h := readR_put l10 [] 1024 (by decide) ok10 (by decide) (by
    intro x hx
    simp only [l10, List.mem_cons, List.mem_nil_iff, or_false] at hx
    rcases hx with rfl | rfl | rfl | rfl <;> decide)
  exact h
theorem readx10 : readR 1024 (s10.data.toList ++ [120]) [97, 0] = ([], 6) := by rfl
theorem plain10 : (plainR l10).length = 3 := by rfl
theorem rdTk_new (w : World) (t : TypeId) (l : List TK) : RdTk (w.alloc (.cells (tkL l).toArray t)) (some ⟨w.heap.size, 0, none⟩) l := by
  have h := Arr.new w t (tkL l).toArray
  refine .inr ⟨w.heap.size, 0, rfl, fun k hk => ?_⟩
  obtain ⟨h1, h2, h3⟩ := tkL_at l hk
  refine ⟨?_, ?_, ?_⟩
  · rw [h.cell, Nat.zero_add, List.getElem?_toArray, h1]
  · rw [h.cell, Nat.zero_add, List.getElem?_toArray, h2]
  · rw [h.cell, Nat.zero_add, List.getElem?_toArray, h3]

set_option maxHeartbeats 1600000 in
set_option maxRecDepth 100000 in
theorem awake10 (H : TokMust) (w : World) : Calls Try.prog 7 #[] w fun e w' => e = .returned (.bool true) ∧ Below w.heap.size w w' := by
  obtain ⟨W0, hW0⟩ : ∃ W0, W0 = w.alloc (.cells #[.int .i64 1, .string ⟨#[]⟩, .string ⟨#[]⟩, .int .i64 3, .string ⟨#[97]⟩, .string ⟨#[120, 121, 122]⟩, .int .i64 4, .string ⟨#[]⟩, .string ⟨#[]⟩, .int .i64 2, .string ⟨#[]⟩, .string ⟨#[]⟩] 34) := ⟨_, rfl⟩
  obtain ⟨g, hg⟩ : ∃ g, g = w.heap.size := ⟨_, rfl⟩
  have HRD0 : Hid (RdTk W0 (some ⟨g, 0, none⟩) l10) := by rw [hW0, hg]; exact rdTk_new w 34 l10
  have HB0 : Hid (Below w.heap.size w W0) := by rw [hW0]; exact (Below.refl _ _).alloc (Nat.le_refl _) _
  have hkd : ∀ k, k < l10.length → (l10.getD k tk0).kd < 9223372036854775808 ∧ -9223372036854775808 ≤ (l10.getD k tk0).kd := by
    intro k hk
    match k, hk with
    | 0, _ => decide
    | 1, _ => decide
    | 2, _ => decide
    | 3, _ => decide
  have hsz : ∀ k, k < l10.length → (l10.getD k tk0).nm.size ≤ 1048576 ∧ (l10.getD k tk0).vl.size ≤ 1048576 := by
    intro k hk
    match k, hk with
    | 0, _ => decide
    | 1, _ => decide
    | 2, _ => decide
    | 3, _ => decide
  have HPUT := Lib.hid (H.put (some ⟨g, 0, none⟩) 4 l10 W0 HRD0.out (by decide) (by unfold maxLen; decide) hsz hkd)
  rw [put10] at HPUT
  have HRE := Lib.hid (fun W => H.read s10 ⟨#[97, 0]⟩ W (by decide) (by decide))
  have e1 : (ByteArray.mk #[97, 0]).data.toList = [97, 0] := rfl
  rw [e1, read10] at HRE
  obtain ⟨SX, hSX⟩ : ∃ SX : ByteArray, SX.data.toList = s10.data.toList ++ [120] := ⟨⟨(s10.data.toList ++ [120]).toArray⟩, mk_list _⟩
  have hSXs : SX.size ≤ 1099511627776 := by show SX.data.toList.length ≤ _; rw [hSX]; decide
  have a1 : ∀ W, (Op.stringOp .add s10 ⟨#[120]⟩).run Try.prog W = .ok (.string SX) W := fun W => add_letters hSX (by decide) W
  have HRX := Lib.hid (fun W => H.read SX ⟨#[97, 0]⟩ W hSXs (by decide))
  rw [hSX, e1, readx10] at HRX
  have HPL := Lib.hid (fun W (h : RdTk W (some ⟨g, 0, none⟩) l10) => H.plain (some ⟨g, 0, none⟩) 4 l10 W h (by decide) (by unfold maxLen; decide) (by decide) hkd)
  have HSM : Hid (∀ (W : World) A cap, RdTk W A l10 → RdTk W (some ⟨g, 0, none⟩) l10 → Calls Try.prog 10 #[.slice A 4 cap, .slice (some ⟨g, 0, none⟩) 4 4] W fun e w' => e = .returned (.bool true) ∧ Below W.heap.size W w') := fun W A cap h h' => sameTk_any A _ cap 4 l10 W (by decide) h h'
  have hs36 : s10.size = 36 := by decide
  generalize s10 = S at *
  have d36 : ((S.size : Int) == 36) = true := by rw [hs36]; rfl
  clear hSX hSXs e1 hkd hsz hs36 H
  go_enter Try.func7, Try.ntmps7
  go_upto_region 2 with fail
  rw [← hW0, ← hg]
  have hz0 := HB0.out.size
  clear hW0 hg
  go_wp2_with fail
  refine HPUT.out.mono ?_
  rintro e w1 ⟨rfl, hb1⟩
  have HL1 := Lib.hid (HRD0.out.below hb1)
  have HB1 := Lib.hid (HB0.out.trans (hb1.mono hz0))
  have hz1 := HB1.out.size
  clear hb1 HPUT HRD0 HB0
  go_wp2_with fail
  refine (HRE.out _).mono ?_
  rintro e w2 ⟨v2, rfl, ⟨A2, cap2, rfl, hm2, _, _⟩, hb2⟩
  have HL2 := Lib.hid (HL1.out.below hb2)
  have HM2 := Lib.hid hm2
  have HB2 := Lib.hid (HB1.out.trans (hb2.mono hz1))
  have hz2 := HB2.out.size
  clear hb2 hm2 HRE HL1 HB1
  go_wp2_with fail
  refine (HRX.out _).mono ?_
  rintro e w3 ⟨v3, rfl, ⟨A3, cap3, rfl, _, _, _⟩, hb3⟩
  have HL3 := Lib.hid (HL2.out.below hb3)
  have HM3 := Lib.hid (HM2.out.below hb3)
  have HB3 := Lib.hid (HB2.out.trans (hb3.mono hz2))
  have hz3 := HB3.out.size
  clear hb3 HRX HL2 HM2 HB2
  go_wp2_with fail
  refine (HSM.out _ _ _ HM3.out HL3.out).mono ?_
  rintro e w4 ⟨rfl, hb4⟩
  have HL4 := Lib.hid (HL3.out.below hb4)
  have HB4 := Lib.hid (HB3.out.trans (hb4.mono hz3))
  have hz4 := HB4.out.size
  clear hb4 HSM HL3 HM3 HB3
  go_wp2_with fail
  refine (HPL.out _ HL4.out).mono ?_
  rintro e w5 ⟨v5, rfl, ⟨A5, cap5, rfl, _, _, _⟩, hb5⟩
  have HB5 := Lib.hid (HB4.out.trans (hb5.mono hz4))
  have d3 : (((plainR l10).length : Int) == 3) = true := by rw [plain10]; rfl
  clear hb5 HPL
  generalize (plainR l10).length = pl at *
  go_wp2
  go_ret
  exact ⟨rfl, HB5.out⟩
end Go.Proofs.Ytdflflcidajenaa
