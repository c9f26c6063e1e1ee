/- What package ram's fault, Check, Read, Spans, Clear and New do. Conditions: a Ram in which at most 100 spans are loaded, and they exist; a slice of at most 20 spans, no longer than its capacity; numbers of 64 bits. -/
import Derived.Test.YtecfdcibjmakeaaRaT
import Derived.Deep.RegionWith
namespace Go.Proofs.Ytecfdcibjmakeaa
open Go.RowKit

/-- The error of a span behind earlier ones, as package ram finds it. -/
def ftS (x : SP) (K E : List SP) : Nat := if insS x = false then 2 else if x.n = 0 then 0 else if x.p < 4096 then 3 else if (K.any (meetS x) || E.any (meetS x)) = true then 12 else 0
theorem meet_empty {x : SP} (h : x.n = 0) (L : List SP) : L.any (meetS x) = false := by
  rw [List.any_eq_false]
  intro y _
  rw [meetS_false (by omega)]
  decide
theorem ft_er1 (K l : List SP) (i : Nat) : ftS (l.getD i sp0) K (l.take i) = er1 K l i := by
  unfold ftS er1
  generalize l.getD i sp0 = x
  cases h1 : insS x with
  | false => simp
  | true =>
    have hn := (insS_of h1).2.1
    simp only [Bool.true_eq_false, if_false]
    by_cases h2 : x.n = 0
    · have hl : lowS x = false := by unfold lowS; rw [decide_eq_false (by omega)]; rfl
      rw [if_pos h2, hl, meet_empty h2, meet_empty h2]
      rfl
    · rw [if_neg h2]
      have hl : lowS x = decide (x.p < 4096) := by unfold lowS; rw [decide_eq_true (by omega)]; rfl
      rw [hl]
      by_cases h3 : x.p < 4096
      · rw [if_pos h3, if_pos (decide_eq_true h3)]
      · rw [if_neg h3, decide_eq_false h3]
        cases K.any (meetS x) <;> cases (l.take i).any (meetS x) <;> rfl

set_option maxHeartbeats 3200000 in
set_option maxRecDepth 100000 in
theorem mfault_any (g : Nat) (v : Value) (R : List LD) (x : SP) (A : Option Addr) (cap : Nat) (E : List SP) (w : World) (h : RMX w g v R) (hok : RamOk R) (hR : R.length ≤ 100) (hr : RdSp w A E) (hE : E.length ≤ 1000) (hEi : ∀ k, k < E.length → insS (E.getD k sp0) = true) :
    Calls Try.prog 21 #[.pointer (some ⟨g, 0, none⟩), spV x, .slice A E.length cap] w fun e w' => e = .returned (.int .i64 (ftS x (R.map LD.sp) E : Int)) ∧ Below w.heap.size w w' := by
  obtain ⟨B, hB, hA, hown⟩ := h
  obtain ⟨AL, capL, rfl, hsp⟩ := own_spans hown
  have hba := (Below.refl w.heap.size w).alloc (Nat.le_refl _) (.cells (spC x) 47)
  have hX := Arr.new w 47 (spC x)
  have HBa := Lib.hid hba
  have c0 : (w.alloc (.cells (spC x) 47)).cell? ⟨w.heap.size, 0, none⟩ = some (.int .i64 x.p) := hX.cell 0
  have c1 : (w.alloc (.cells (spC x) 47)).cell? ⟨w.heap.size, 1, none⟩ = some (.int .i64 x.n) := hX.cell 1
  have cs : (w.alloc (.cells (spC x) 47)).cell? ⟨g, 65537, none⟩ = some (.slice AL (R.map LD.sp).length capL) := ram_spans (hA.below hba hA.lt) hB.1
  have HT := Lib.hid (mthere_any x.p x.n (w.alloc (.cells (spC x) 47)))
  have hKl : (R.map LD.sp).length ≤ 1000 := by rw [List.length_map]; omega
  have hKi : ∀ k, k < (R.map LD.sp).length → insS ((R.map LD.sp).getD k sp0) = true := fun k hk => by
    rw [List.length_map] at hk
    rw [sp_getD R hk]; exact (hok.1 k hk).1
  have HK := Lib.hid (fun W (hW : Below w.heap.size w W) (hx : insS x = true) => movl_any AL capL (R.map LD.sp) x W (hsp.below hW) hKl hx hKi)
  have HE := Lib.hid (fun W (hW : Below w.heap.size w W) (hx : insS x = true) => movl_any A cap E x W (hr.below hW) hE hx hEi)
  obtain ⟨ans, hans⟩ : ∃ ans, ftS x (R.map LD.sp) E = ans := ⟨_, rfl⟩
  rw [hans]
  unfold ftS at hans
  have HF := Lib.hid hans.symm
  clear hans
  generalize (R.map LD.sp).any (meetS x) = kb at *
  generalize E.any (meetS x) = eb at *
  generalize (R.map LD.sp).length = nK at *
  generalize E.length = nE at *
  clear hA hown hsp hX hba hok hR hr hE hEi hKl hKi hB B
  cases hin : insS x with
  | false =>
    have HN : Hid (ans = 2) := by rw [hin] at HF; exact HF.out
    have HT2 : Hid (Calls Try.prog 18 #[.int .i64 x.p, .int .i64 x.n] (w.alloc (.cells (spC x) 47)) fun e w' => e = .returned (.bool false) ∧ w.alloc (.cells (spC x) 47) = w') := by
      have := HT.out
      rwa [show insS ⟨x.p, x.n⟩ = false from hin] at this
    rw [HN.out]
    clear hin HF HK HE HT cs
    obtain ⟨p, n⟩ := x
    simp only [spC] at HT2 HBa c0 c1
    simp only [spV]
    clear c0 c1
    go_enter Try.func21, Try.ntmps21
    go_wp2_with fail
    refine HT2.out.mono ?_
    rintro e w1 ⟨rfl, rfl⟩
    go_wp2
    go_ret
    exact ⟨rfl, HBa.out⟩
  | true =>
    have HT2 : Hid (Calls Try.prog 18 #[.int .i64 x.p, .int .i64 x.n] (w.alloc (.cells (spC x) 47)) fun e w' => e = .returned (.bool true) ∧ w.alloc (.cells (spC x) 47) = w') := by
      have := HT.out
      rwa [show insS ⟨x.p, x.n⟩ = true from hin] at this
    have HKK : Hid (∀ W, Below w.heap.size w W → Calls Try.prog 22 #[spV x, .slice AL nK capL] W fun e w' => e = .returned (.bool kb) ∧ Below W.heap.size W w') := fun W hW => HK.out W hW hin
    have HEE : Hid (∀ W, Below w.heap.size w W → Calls Try.prog 22 #[spV x, .slice A nE cap] W fun e w' => e = .returned (.bool eb) ∧ Below W.heap.size W w') := fun W hW => HE.out W hW hin
    rw [hin] at HF
    have HF2 : Hid (ans = if x.n = 0 then 0 else if x.p < 4096 then 3 else if (kb || eb) = true then 12 else 0) := HF.out
    clear hin HF HK HE HT
    obtain ⟨p, n⟩ := x
    simp only [spC] at HT2 HBa c0 c1 cs
    simp only at HF2
    simp only [spV] at HKK HEE
    simp only [spV]
    by_cases q1 : n = 0
    · have HN : Hid (ans = 0) := by unfold Hid; rw [HF2.out, if_pos q1]
      rw [HN.out]
      have d1 : (n == 0) = true := by rw [q1]; rfl
      clear HF2 HKK HEE cs q1
      go_enter Try.func21, Try.ntmps21
      go_wp2_with fail
      refine HT2.out.mono ?_
      rintro e w1 ⟨rfl, rfl⟩
      go_wp2
      go_ret
      exact ⟨rfl, HBa.out⟩
    · have d1 : (n == 0) = false := by simpa using q1
      by_cases q2 : p < 4096
      · have HN : Hid (ans = 3) := by unfold Hid; rw [HF2.out, if_neg q1, if_pos q2]
        rw [HN.out]
        have d2 : decide (p < 4096) = true := decide_eq_true q2
        clear HF2 HKK HEE cs q1 q2
        go_enter Try.func21, Try.ntmps21
        go_wp2_with fail
        refine HT2.out.mono ?_
        rintro e w1 ⟨rfl, rfl⟩
        go_wp2
        go_ret
        exact ⟨rfl, HBa.out⟩
      · have d2 : decide (p < 4096) = false := decide_eq_false q2
        have HN : Hid (ans = if (kb || eb) = true then 12 else 0) := by unfold Hid; rw [HF2.out, if_neg q1, if_neg q2]
        clear HF2 q1 q2
        go_enter Try.func21, Try.ntmps21
        go_wp2_with fail
        refine HT2.out.mono ?_
        rintro e w1 ⟨rfl, rfl⟩
        clear HT2
        have HKP : Hid (∀ W', Below (w.alloc (.cells #[.int .i64 p, .int .i64 n] 47)).heap.size (w.alloc (.cells #[.int .i64 p, .int .i64 n] 47)) W' → W'.cell? ⟨w.heap.size, 0, none⟩ = some (.int .i64 p) ∧ W'.cell? ⟨w.heap.size, 1, none⟩ = some (.int .i64 n) ∧ W'.cell? ⟨g, 65537, none⟩ = some (.slice AL nK capL) ∧ Below (w.alloc (.cells #[.int .i64 p, .int .i64 n] 47)).heap.size (w.alloc (.cells #[.int .i64 p, .int .i64 n] 47)) W') :=
          fun W' hW => ⟨cell_below c0 hW, cell_below c1 hW, cell_below cs hW, hW⟩
        have HQ1 : Hid (∀ W, Below (w.alloc (.cells #[.int .i64 p, .int .i64 n] 47)).heap.size (w.alloc (.cells #[.int .i64 p, .int .i64 n] 47)) W → Calls Try.prog 22 #[.agg #[.int .i64 p, .int .i64 n], .slice AL nK capL] W fun e w' => e = .returned (.bool kb) ∧ w'.cell? ⟨w.heap.size, 0, none⟩ = some (.int .i64 p) ∧ w'.cell? ⟨w.heap.size, 1, none⟩ = some (.int .i64 n) ∧ w'.cell? ⟨g, 65537, none⟩ = some (.slice AL nK capL) ∧ Below (w.alloc (.cells #[.int .i64 p, .int .i64 n] 47)).heap.size (w.alloc (.cells #[.int .i64 p, .int .i64 n] 47)) w') :=
          fun W hW => (HKK.out W (HBa.out.trans (hW.mono HBa.out.size))).mono fun _ _ ⟨h1, h2⟩ => ⟨h1, HKP.out _ (hW.trans (h2.mono hW.size))⟩
        have HQ2 : Hid (∀ W, Below (w.alloc (.cells #[.int .i64 p, .int .i64 n] 47)).heap.size (w.alloc (.cells #[.int .i64 p, .int .i64 n] 47)) W → Calls Try.prog 22 #[.agg #[.int .i64 p, .int .i64 n], .slice A nE cap] W fun e w' => e = .returned (.bool eb) ∧ w'.cell? ⟨w.heap.size, 0, none⟩ = some (.int .i64 p) ∧ w'.cell? ⟨w.heap.size, 1, none⟩ = some (.int .i64 n) ∧ w'.cell? ⟨g, 65537, none⟩ = some (.slice AL nK capL) ∧ Below (w.alloc (.cells #[.int .i64 p, .int .i64 n] 47)).heap.size (w.alloc (.cells #[.int .i64 p, .int .i64 n] 47)) w') :=
          fun W hW => (HEE.out W (HBa.out.trans (hW.mono HBa.out.size))).mono fun _ _ ⟨h1, h2⟩ => ⟨h1, HKP.out _ (hW.trans (h2.mono hW.size))⟩
        clear HKK HEE
        go_upto_region 7 with fail
        generalize w.alloc (.cells #[.int .i64 p, .int .i64 n] 47) = W at *
        have hz5 := HBa.out.size
        generalize hg5 : w.heap.size = g5 at *
        have HG5 := Lib.hid hg5
        clear hg5
        have hbd : Below W.heap.size W W.drew := (Below.refl _ _).drew
        go_cut [22] (fun s22 wx => s22 = .bool (kb || eb) ∧ Below W.heap.size W wx)
        case first => as_aux_lemma =>
          cases kb with
          | true =>
            first | (go_region_with (first | (go_at_call 22; refine (HQ1.out _ hbd).mono ?_; rintro e w7 ⟨rfl, s1, s2, s3, s4⟩))) | fail
            all_goals (go_wp2_with fail; go_meet; exact ⟨rfl, by assumption⟩)
          | false =>
            go_region_held3 (fun w' => w'.cell? ⟨g5, 0, none⟩ = some (.int .i64 p) ∧ w'.cell? ⟨g5, 1, none⟩ = some (.int .i64 n) ∧ w'.cell? ⟨g, 65537, none⟩ = some (.slice AL nK capL) ∧ Below W.heap.size W w') (exact HKP.out _ (by assumption))
              (first | (go_at_call 22; refine (HQ1.out _ (by assumption)).mono ?_; rintro e w7 ⟨rfl, s1, s2, s3, s4⟩) | (go_at_call 22; refine (HQ2.out _ (by assumption)).mono ?_; rintro e w8 ⟨rfl, t1, t2, t3, t4⟩))
            all_goals (go_wp2_with fail; go_meet; exact ⟨rfl, by assumption⟩)
        case rest => as_aux_lemma =>
          obtain ⟨rfl, hbc⟩ := hcut
          have HBc := Lib.hid (HBa.out.trans (hbc.mono hz5))
          clear hbc hbd HQ1 HQ2 HKP c0 c1 cs
          cases hke : (kb || eb) with
          | true =>
            rw [hke] at HN
            clear hke
            go_wp2
            go_ret
            exact ⟨by rw [HN.out]; rfl, by rw [HG5.out]; exact HBc.out⟩
          | false =>
            rw [hke] at HN
            clear hke
            go_wp2
            go_ret
            exact ⟨by rw [HN.out]; rfl, by rw [HG5.out]; exact HBc.out⟩
end Go.Proofs.Ytecfdcibjmakeaa
