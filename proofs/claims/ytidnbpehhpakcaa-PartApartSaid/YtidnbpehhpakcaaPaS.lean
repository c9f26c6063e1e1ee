/- What package part's Table is in memory, and what parts, All, Find, size and Size return; slices.Clone of parts. Conditions: a slice that reads as at most 20 parts; a Table of parts. -/
import Derived.Test.YtidnbpehhpakcaaPaI
import Derived.Laws.AppendOwn
import Derived.Lib.SliceRun
namespace Go.Proofs.Ytidnbpehhpakcaa
open Go.RowKit

/-- Parts as cells. -/
def ptsC (L : List PT) : List Value := L.flatMap fun p => [.string p.nm, .int .i64 p.fi, .int .i64 p.mn]
theorem ptsC_cons (p : PT) (L : List PT) : ptsC (p :: L) = .string p.nm :: .int .i64 p.fi :: .int .i64 p.mn :: ptsC L := by simp [ptsC]
theorem ptsC_length (L : List PT) : (ptsC L).length = L.length * 3 := by
  induction L with
  | nil => rfl
  | cons p L ih => rw [ptsC_cons]; simp only [List.length_cons, ih]; omega
theorem ptsC_at (L : List PT) {k : Nat} (hk : k < L.length) : (ptsC L)[k * 3]? = some (.string (L.getD k pt0).nm) ∧ (ptsC L)[k * 3 + 1]? = some (.int .i64 (L.getD k pt0).fi) ∧ (ptsC L)[k * 3 + 2]? = some (.int .i64 (L.getD k pt0).mn) := by
  induction L generalizing k with
  | nil => simp at hk
  | cons p L ih =>
    rw [ptsC_cons]
    match k, hk with
    | 0, _ => exact ⟨rfl, rfl, rfl⟩
    | k + 1, hk =>
      have := ih (k := k) (by simpa using hk)
      rw [show (k + 1) * 3 = k * 3 + 1 + 1 + 1 by omega]
      simp only [List.getElem?_cons_succ, List.getD_cons_succ]
      exact this
theorem ptsC_one (L : List PT) : ∀ u ∈ ptsC L, u.oneCell' = true := by
  induction L with
  | nil => intro u hu; cases hu
  | cons p L ih =>
    rw [ptsC_cons]
    intro u hu
    simp only [List.mem_cons] at hu
    rcases hu with rfl | rfl | rfl | hu
    · rfl
    · rfl
    · rfl
    · exact ih u hu
/-- A slice's parts, cell by cell. -/
theorem rdP_news {w : World} {b off : Nat} {L : List PT} (hr : RdP w (some ⟨b, off, none⟩) L) (j : Nat) (u : Value) (hj : (ptsC L)[j]? = some u) : w.cell? ⟨b, off + j, none⟩ = some u := by
  have hl := (List.getElem?_eq_some_iff.1 hj).1
  rw [ptsC_length] at hl
  rcases hr with rfl | ⟨b', off', he, hc⟩
  · simp at hl
  · injection he with he
    injection he with h1 h2
    subst h1; subst h2
    have hk : j / 3 < L.length := by omega
    obtain ⟨c1, c2, c3⟩ := hc (j / 3) hk
    obtain ⟨e1, e2, e3⟩ := ptsC_at L hk
    have hm : j = j / 3 * 3 ∨ j = j / 3 * 3 + 1 ∨ j = j / 3 * 3 + 2 := by omega
    rcases hm with h | h | h
    · rw [← h] at e1 c1; rw [c1, ← hj, e1]
    · rw [← h] at e2; rw [show off + j / 3 * 3 + 1 = off + j by omega] at c2; rw [c2, ← hj, e2]
    · rw [← h] at e3; rw [show off + j / 3 * 3 + 2 = off + j by omega] at c3; rw [c3, ← hj, e3]
/-- The slice at A has a row of its own, of the parts L. -/
def PL (w : World) (A : Option Addr) (L : List PT) : Prop := L = [] ∨ ∃ b cs, A = some ⟨b, 0, none⟩ ∧ Arr w b 33 cs ∧ cs.toList.take (L.length * 3) = ptsC L
theorem PL.rd {w : World} {A : Option Addr} {L : List PT} (h : PL w A L) : RdP w A L := by
  rcases h with h | ⟨b, cs, rfl, hA, ht⟩
  · exact .inl h
  · refine .inr ⟨b, 0, rfl, fun k hk => ?_⟩
    obtain ⟨e1, e2, e3⟩ := ptsC_at L hk
    rw [← ht] at e1 e2 e3
    rw [List.getElem?_take_of_lt (by omega), Array.getElem?_toList] at e1 e2 e3
    rw [Nat.zero_add]
    exact ⟨(hA.cell _).trans e1, (hA.cell _).trans e2, (hA.cell _).trans e3⟩
theorem PL.below {w w' : World} {A : Option Addr} {L : List PT} (h : PL w A L) (hb : Below w.heap.size w w') : PL w' A L := by
  rcases h with h | ⟨b, cs, rfl, hA, ht⟩
  · exact .inl h
  · exact .inr ⟨b, cs, rfl, hA.below hb hA.lt, ht⟩
theorem arr_type {w : World} {g t t' : Nat} {cs cs' : Array Value} (h : Arr w g t cs) (h' : Arr w g t' cs') : t = t' := by
  unfold Arr at h h'
  rw [h] at h'
  injection h' with h'
  injection h'
theorem PL.grown {w w' : World} {A : Option Addr} {L : List PT} {g t : Nat} {cs : Array Value} (h : PL w A L) (hg : w.grownBy w' (some g)) (hA : Arr w g t cs) (ht : (33 : Nat) ≠ t) : PL w' A L := by
  rcases h with h | ⟨b, cs, rfl, hA', he⟩
  · exact .inl h
  · exact .inr ⟨b, cs, rfl, hA'.grown hg (fun e => ht (by injection e with e; subst e; exact arr_type hA' hA)), he⟩
theorem pl_own {w : World} {base : Nat} {v : Value} {L : List PT} (h : w.ownsRow base 33 3 v L.length (ptsC L)) : ∃ A cap, v = .slice A L.length cap ∧ PL w A L := by
  rcases h.2 with ⟨rfl, hz⟩ | ⟨g, cap, cur, rfl, _, hg, _, _, _, hx⟩
  · exact ⟨none, 0, by rw [hz], .inl (List.length_eq_zero_iff.1 hz)⟩
  · exact ⟨_, cap, rfl, .inr ⟨g, cur, rfl, hg, hx⟩⟩
/-- The pointer q is a Table of the parts L. -/
def TBL (w : World) (q : Option Addr) (L : List PT) : Prop := ∃ gt A cap, q = some ⟨gt, 0, none⟩ ∧ Arr w gt 71 #[.slice A L.length cap] ∧ PL w A L
theorem TBL.below {w w' : World} {q : Option Addr} {L : List PT} (h : TBL w q L) (hb : Below w.heap.size w w') : TBL w' q L := by
  obtain ⟨gt, A, cap, rfl, hA, hP⟩ := h
  exact ⟨gt, A, cap, rfl, hA.below hb hA.lt, hP.below hb⟩
theorem TBL.grown {w w' : World} {q : Option Addr} {L : List PT} {g t : Nat} {cs : Array Value} (h : TBL w q L) (hg : w.grownBy w' (some g)) (hA : Arr w g t cs) (ht : (33 : Nat) ≠ t) (ht' : (71 : Nat) ≠ t) : TBL w' q L := by
  obtain ⟨gt, A, cap, rfl, hA', hP⟩ := h
  exact ⟨gt, A, cap, rfl, hA'.grown hg (fun e => ht' (by injection e with e; subst e; exact arr_type hA' hA)), hP.grown hg hA ht⟩

set_option maxHeartbeats 800000 in
set_option maxRecDepth 100000 in
/-- slices.Clone of parts. -/
theorem clone_any (A : Option Addr) (cap : Nat) (L : List PT) (w : World) (hr : RdP w A L) (hl : L.length ≤ 1000) :
    Calls Try.prog 30 #[.slice A L.length cap] w fun e w' => ∃ A' cap', e = .returned (.slice A' L.length cap') ∧ PL w' A' L ∧ Below w.heap.size w w' := by
  have q22 : ∀ (w : World) (a : Option Addr) (n c n' c' : Nat), (binOp .eql 22 (.slice a n c) (.slice none n' c')).run Try.prog w = .ok (.bool a.isNone) w := fun w a n c n' c' => Lib.run_eql_slice_nil w _ _ a n c n' c' Try.underlying22
  have HR := Lib.hid hr
  clear hr
  match A, HR with
  | none, HR =>
    have hz : L = [] := by
      rcases HR.out with h | ⟨b, off, h, _⟩
      · exact h
      · cases h
    subst hz
    go_enter Try.func30, Try.ntmps30
    go_wp2
    go_ret
    exact ⟨none, 0, rfl, .inl rfl, Below.refl _ _⟩
  | some ad, HR =>
    have hi : ((Try.prog.info? 33).map fun i => (i.zero, i.size, i.bytes)) = some (some (ptV pt0), 3, 32) := by kernel_rfl
    obtain ⟨i0, hi0, he⟩ := Option.map_eq_some_iff.1 hi
    simp only [Prod.mk.injEq] at he
    obtain ⟨hz0, hz1, hz2⟩ := he
    clear hi
    have HI := Lib.hid hi0
    have HZ0 := Lib.hid hz0
    have HZ1 := Lib.hid hz1
    have HZ2 := Lib.hid hz2
    have HL : Hid ((ptsC L).length = L.length * 3) := ptsC_length L
    have HNW : Hid (∀ (o : Obj) (j : Nat) (u : Value), (ptsC L)[j]? = some u → (w.alloc o).cell? (ad.add j) = some u) := fun o j u hj => by
      rcases HR.out with rfl | ⟨b, off, h, hc⟩
      · cases hj
      · injection h with h
        subst h
        rw [Addr.add_lit]; exact Lib.cell?_alloc_some _ (rdP_news (.inr ⟨b, off, rfl, hc⟩) j u hj)
    have H1 := Lib.hid (ptsC_one L)
    clear hi0 hz0 hz1 hz2
    go_enter Try.func30, Try.ntmps30
    go_wp2_with (at_builtin; refine wpList_append_own _ rfl (.tmp 5) (.tmp 6) 22 rfl w.heap.size 33 i0 (ptV pt0) 3 32 Try.underlying22 HI.out HZ0.out HZ1.out HZ2.out rfl (by decide) _ 0 [] rfl (World.ownsRow_made w #[] 0 (Nat.le_refl _) (Nat.zero_le _) rfl) ad L.length cap (ptsC L) rfl HL.out (HNW.out _) H1.out (by unfold maxLen; omega) (by omega) (by simp) ?_)
    intro v' w1 hown hgrow _
    obtain ⟨A', cap', rfl, hP⟩ := pl_own hown
    have HP := Lib.hid hP
    have HB := Lib.hid (((Below.refl w.heap.size w).alloc (Nat.le_refl _) (.cells #[] 33)).grown hgrow (by simp) (by intro k hk; simp [Value.ownBlock] at hk; omega))
    clear hown hgrow hP
    go_wp2
    go_ret
    exact ⟨_, _, rfl, HP.out, HB.out⟩

set_option maxHeartbeats 400000 in
set_option maxRecDepth 100000 in
theorem parts_nil (w : World) : Calls Try.prog 31 #[.pointer none] w fun e w' => e = .returned (.slice none 0 0) ∧ w = w' := by
  go_enter Try.func31, Try.ntmps31
  go_wp2
  go_ret
  exact ⟨rfl, rfl⟩
set_option maxHeartbeats 400000 in
set_option maxRecDepth 100000 in
theorem parts_any (gt : Nat) (v : Value) (w : World) (hA : Arr w gt 71 #[v]) : Calls Try.prog 31 #[.pointer (some ⟨gt, 0, none⟩)] w fun e w' => e = .returned v ∧ w = w' := by
  have c0 : w.cell? ⟨gt, 0, none⟩ = some v := hA.cell 0
  clear hA
  go_enter Try.func31, Try.ntmps31
  go_wp2
  go_ret
  exact ⟨rfl, rfl⟩
set_option maxHeartbeats 400000 in
set_option maxRecDepth 100000 in
theorem pall_nil (w : World) : Calls Try.prog 10 #[.pointer none] w fun e w' => (∃ A cap, e = .returned (.slice A 0 cap)) ∧ Below w.heap.size w w' := by
  have HP := Lib.hid (parts_nil w)
  have HC := Lib.hid (clone_any none 0 [] w (.inl rfl) (by decide))
  go_enter Try.func10, Try.ntmps10
  go_wp2_with fail
  refine HP.out.mono ?_
  rintro e w1 ⟨rfl, rfl⟩
  go_wp2_with fail
  refine HC.out.mono ?_
  rintro e w1 ⟨A', cap', rfl, _, hb⟩
  go_wp2
  go_ret
  exact ⟨⟨_, _, rfl⟩, hb⟩
set_option maxHeartbeats 400000 in
set_option maxRecDepth 100000 in
theorem pall_any (w : World) (q : Option Addr) (L : List PT) (h : TBL w q L) (hl : L.length ≤ 1000) :
    Calls Try.prog 10 #[.pointer q] w fun e w' => ∃ A cap, e = .returned (.slice A L.length cap) ∧ RdP w' A L ∧ Below w.heap.size w w' := by
  obtain ⟨gt, A, cap, rfl, hA, hP⟩ := h
  have HP := Lib.hid (parts_any gt _ w hA)
  have HC := Lib.hid (clone_any A cap L w hP.rd hl)
  clear hA hP
  go_enter Try.func10, Try.ntmps10
  go_wp2_with fail
  refine HP.out.mono ?_
  rintro e w1 ⟨rfl, rfl⟩
  go_wp2_with fail
  refine HC.out.mono ?_
  rintro e w1 ⟨A', cap', rfl, hPL, hb⟩
  have HPL := Lib.hid hPL
  clear hPL
  go_wp2
  go_ret
  exact ⟨_, _, rfl, HPL.out.rd, hb⟩
set_option maxHeartbeats 1600000 in
set_option maxRecDepth 100000 in
theorem find_any (w : World) (q : Option Addr) (L : List PT) (name : ByteArray) (h : TBL w q L) (hl : L.length ≤ 1000) :
    Calls Try.prog 11 #[.pointer q, .string name] w fun e w' => e = .returned (.tuple #[ptV (fdV L name), .bool (fdB L name)]) ∧ Below w.heap.size w w' := by
  have HB := Lib.hid ((Below.refl w.heap.size w).alloc (Nat.le_refl _) (.cells (ptC pt0) 33))
  have HT := Lib.hid (h.below HB.out)
  have HA := Lib.hid (Arr.new w 33 (ptC pt0))
  have HSZ : Hid ((w.alloc (.cells (ptC pt0) 33)).heap.size = w.heap.size + 1) := Array.size_push _
  clear h
  go_enter Try.func11, Try.ntmps11
  go_wp2_with fail
  change Calls _ _ _ (w.alloc (.cells (ptC pt0) 33)) _
  generalize w.alloc (.cells (ptC pt0) 33) = W at *
  have hsz := HSZ.out
  obtain ⟨gt, A, cap, rfl, hA, hP⟩ := HT.out
  have HP := Lib.hid (parts_any gt _ W hA)
  have HR := Lib.hid hP.rd
  clear hA hP HT HSZ
  refine HP.out.mono ?_
  rintro e w1 ⟨rfl, rfl⟩
  clear HP
  go_wp2
  go_loopw [11] (fun i wr => ∃ k : Nat, k ≤ L.length ∧ i = .int .i64 k ∧ (∀ j, j < k → (L.getD j pt0).nm ≠ name) ∧ Below W.heap.size W wr) (fun i _ => L.length - (intOf i).toNat)
  case atStart => exact ⟨0, Nat.zero_le _, rfl, fun _ h => absurd h (Nat.not_lt_zero _), Below.refl _ _⟩
  case round =>
    obtain ⟨k, hk, rfl, hall, hb⟩ := hrel
    have HALL := Lib.hid hall
    have HB1 := Lib.hid hb
    have hsz1 := hb.size
    have HA1 := Lib.hid (HA.out.below hb HA.out.lt)
    clear hall hb
    by_cases hlt : k < L.length
    · have hki : (k : Int) < L.length := by omega
      obtain ⟨b, off, x, rfl, hpt, HX⟩ := (HR.out.below HB1.out).at_ hlt
      obtain ⟨nm, fi, mn⟩ := x
      obtain ⟨h1, h2, h3⟩ := hpt
      simp only at h1 h2 h3
      have HBN := Lib.hid (HB1.out.alloc hsz1 (.cells (ptC ⟨nm, fi, mn⟩) 33))
      have HAN := Lib.hid (HA1.out.alloc (.cells (ptC ⟨nm, fi, mn⟩) 33))
      have HAP := Lib.hid (Arr.new wr 33 (ptC ⟨nm, fi, mn⟩))
      by_cases hx : nm = name
      · have hd0 : (nm.toList == name.toList) = true := by rw [bytes_eq]; exact decide_eq_true hx
        have HF : Hid (fdP L name = some ⟨nm, fi, mn⟩) := by
          have := fd_some hlt HALL.out (by rw [HX.out]; exact hx)
          rwa [HX.out] at this
        have HV : Hid (fdV L name = ⟨nm, fi, mn⟩ ∧ fdB L name = true) := by unfold Hid fdV fdB; rw [HF.out]; exact ⟨rfl, rfl⟩
        clear hx HF
        go_wp2_with (refine wpList_store_row rfl 33 (.tmp 4) (.tmp 19) rfl w.heap.size (ptC ⟨nm, fi, mn⟩) rfl rfl _ _ HAN.out (infoP _) rfl (ptC_one _) ?_)
        rw [HV.out.1, HV.out.2]
        try simp only [Exit.inBlock, Exit.then]
        exact bodyPost_ret (results_row_tmp rfl _ _ w.heap.size _ (ptC ⟨nm, fi, mn⟩) _ _ rfl (HAN.out.row _) Try.underlying33 rfl (infoP _)) rfl ⟨rfl, below_setRow (HB.out.trans (HBN.out.mono (by omega))) (Nat.le_refl _) _⟩
      · have hd0 : (nm.toList == name.toList) = false := by rw [bytes_eq]; exact decide_eq_false hx
        have HN : Hid (∀ j, j < k + 1 → (L.getD j pt0).nm ≠ name) := by
          intro j hj
          by_cases e : j = k
          · subst e; rw [HX.out]; exact hx
          · exact HALL.out j (by omega)
        clear hx
        go_wp2
        go_roundw
        case rel => exact ⟨k + 1, by omega, by go_num, HN.out, HBN.out⟩
        case measure => simp [intOf]; omega
    · obtain rfl : k = L.length := by omega
      have HF : Hid (fdP L name = none) := fd_none HALL.out
      have HV : Hid (fdV L name = pt0 ∧ fdB L name = false) := by unfold Hid fdV fdB; rw [HF.out]; exact ⟨rfl, rfl⟩
      clear HF
      go_wp2_with (refine wpList_store_row rfl 33 (.tmp 4) (.tmp 21) rfl w.heap.size (ptC pt0) rfl rfl _ _ HA1.out (infoP _) rfl (ptC_one _) ?_)
      rw [HV.out.1, HV.out.2]
      try simp only [Exit.inBlock, Exit.then]
      exact bodyPost_ret (results_row_tmp rfl _ _ w.heap.size _ (ptC pt0) _ _ rfl (HA1.out.row _) Try.underlying33 rfl (infoP _)) rfl ⟨rfl, below_setRow (HB.out.trans (HB1.out.mono (by omega))) (Nat.le_refl _) _⟩
set_option maxHeartbeats 400000 in
set_option maxRecDepth 100000 in
theorem psize_any (p : PT) (w : World) (h0 : 0 ≤ p.mn) (h1 : p.mn ≤ 48) : Calls Try.prog 32 #[ptV p] w fun e w' => e = .returned (.int .i64 (p.mn * 512)) ∧ Below w.heap.size w w' := by
  obtain ⟨nm, fi, mn⟩ := p
  simp only at h0 h1
  have HB := Lib.hid ((Below.refl w.heap.size w).alloc (Nat.le_refl _) (.cells #[.string nm, .int .i64 fi, .int .i64 mn] 33))
  simp only [ptV]
  go_enter Try.func32, Try.ntmps32
  go_wp2
  go_ret
  exact ⟨rfl, HB.out⟩
set_option maxHeartbeats 800000 in
set_option maxRecDepth 100000 in
theorem size_any (w : World) (q : Option Addr) (L : List PT) (name : ByteArray) (h : TBL w q L) (hg : Good L) :
    Calls Try.prog 13 #[.pointer q, .string name] w fun e w' => e = .returned (.int .i64 ((fdV L name).mn * 512)) ∧ Below w.heap.size w w' := by
  have HF := Lib.hid (find_any w q L name h (by have := hg.1; omega))
  have hv := fdV_good hg name
  generalize fdV L name = p at *
  generalize fdB L name = fb at *
  obtain ⟨nm, fi, mn⟩ := p
  simp only at hv
  simp only [ptV] at HF
  obtain ⟨v1, v2, v3, v4⟩ := hv
  clear h hg
  go_enter Try.func13, Try.ntmps13
  go_wp2_with fail
  refine HF.out.mono ?_
  rintro e w1 ⟨rfl, hb⟩
  have HB := Lib.hid (hb.trans (((Below.refl w1.heap.size w1).alloc (Nat.le_refl _) (.cells #[.string nm, .int .i64 fi, .int .i64 mn] 33)).mono hb.size))
  have HS := Lib.hid (psize_any ⟨nm, fi, mn⟩ (w1.alloc (.cells #[.string nm, .int .i64 fi, .int .i64 mn] 33)) (by simp only; omega) (by simp only; omega))
  clear hb HF
  go_wp2_with fail
  refine HS.out.mono ?_
  rintro e w2 ⟨rfl, hb2⟩
  go_wp2
  go_ret
  exact ⟨rfl, HB.out.trans (hb2.mono HB.out.size)⟩
end Go.Proofs.Ytidnbpehhpakcaa
