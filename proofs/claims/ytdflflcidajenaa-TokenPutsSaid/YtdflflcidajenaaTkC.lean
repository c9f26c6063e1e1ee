/- Slices of tokens in memory, that came in or are the call's own; what the document's Few, Same, Plain and Bare return. Conditions: slices that read as tokens; Plain: at most 2000 of them. -/
import Derived.Test.YtdflflcidajenaaTkB
import Derived.Test.YtdflflcidajenaaApp
namespace Go.Proofs.Ytdflflcidajenaa
open Go.RowKit

/-- A token lies at a place. -/
def TkAt (w : World) (b o : Nat) (x : TK) : Prop := w.cell? ⟨b, o, none⟩ = some (.int .i64 x.kd) ∧ w.cell? ⟨b, o + 1, none⟩ = some (.string x.nm) ∧ w.cell? ⟨b, o + 2, none⟩ = some (.string x.vl)
/-- The slice at A reads as the tokens l. -/
def RdTk (w : World) (A : Option Addr) (l : List TK) : Prop := l = [] ∨ ∃ b off, A = some ⟨b, off, none⟩ ∧ ∀ k, k < l.length → TkAt w b (off + k * 3) (l.getD k tk0)
theorem RdTk.at_ {w : World} {A : Option Addr} {l : List TK} (h : RdTk w A l) {k : Nat} (hk : k < l.length) : ∃ b off x, A = some ⟨b, off, none⟩ ∧ TkAt w b (off + k * 3) x ∧ Hid (l.getD k tk0 = x) := by
  rcases h with rfl | ⟨b, off, rfl, hc⟩
  · simp at hk
  · exact ⟨b, off, _, rfl, hc k hk, rfl⟩
theorem TkAt.below {w w' : World} {b o : Nat} {x : TK} (h : TkAt w b o x) (hb : Below w.heap.size w w') : TkAt w' b o x := ⟨cellK_below h.1 hb, cellK_below h.2.1 hb, cellK_below h.2.2 hb⟩
theorem RdTk.below {w w' : World} {A : Option Addr} {l : List TK} (h : RdTk w A l) (hb : Below w.heap.size w w') : RdTk w' A l := by
  rcases h with h | ⟨b, off, rfl, hc⟩
  · exact .inl h
  · exact .inr ⟨b, off, rfl, fun k hk => (hc k hk).below hb⟩
/-- Tokens as cells. -/
def tkl (x : TK) : List Value := [.int .i64 x.kd, .string x.nm, .string x.vl]
def tkL (l : List TK) : List Value := l.flatMap tkl
theorem tkL_snoc (l : List TK) (x : TK) : tkL (l ++ [x]) = tkL l ++ tkl x := by simp [tkL]
theorem tkL_length (l : List TK) : (tkL l).length = l.length * 3 := by
  induction l with
  | nil => rfl
  | cons x l ih => show (tkl x ++ tkL l).length = _; rw [List.length_append, ih, List.length_cons]; simp only [tkl, List.length_cons, List.length_nil]; omega
theorem tkL_at (l : List TK) {k : Nat} (hk : k < l.length) : (tkL l)[k * 3]? = some (.int .i64 (l.getD k tk0).kd) ∧ (tkL l)[k * 3 + 1]? = some (.string (l.getD k tk0).nm) ∧ (tkL l)[k * 3 + 2]? = some (.string (l.getD k tk0).vl) := by
  induction l generalizing k with
  | nil => simp at hk
  | cons x l ih =>
    show (tkl x ++ tkL l)[k * 3]? = _ ∧ (tkl x ++ tkL l)[k * 3 + 1]? = _ ∧ (tkl x ++ tkL l)[k * 3 + 2]? = _
    match k, hk with
    | 0, _ => exact ⟨rfl, rfl, rfl⟩
    | k + 1, hk =>
      have := ih (k := k) (by simpa using hk)
      rw [show (k + 1) * 3 = k * 3 + 1 + 1 + 1 by omega]
      simp only [tkl, List.cons_append, List.nil_append, List.getElem?_cons_succ, List.getD_cons_succ]
      exact this
theorem row_rdTk {w : World} {base : Nat} {v : Value} {l : List TK} (h : w.ownsRow base 34 3 v l.length (tkL l)) : ∃ A cap, v = .slice A l.length cap ∧ RdTk w A l := by
  rcases h.2 with ⟨rfl, hz⟩ | ⟨b, cap, cur, rfl, _, hg, _, _, _, hx⟩
  · exact ⟨none, 0, by rw [hz], .inl (List.length_eq_zero_iff.1 hz)⟩
  · refine ⟨_, cap, rfl, .inr ⟨b, 0, rfl, fun k hk => ?_⟩⟩
    obtain ⟨h1, h2, h3⟩ := tkL_at l hk
    have e : ∀ j, j < l.length * 3 → cur[j]? = (tkL l)[j]? := fun j hj => by
      rw [← hx, List.getElem?_take_of_lt hj, Array.getElem?_toList]
    refine ⟨?_, ?_, ?_⟩
    · rw [Nat.zero_add, cell_of_row w b _ cur _ (0, 0) hg, e _ (by omega), h1]
    · rw [Nat.zero_add, cell_of_row w b _ cur _ (0, 0) hg, e _ (by omega), h2]
    · rw [Nat.zero_add, cell_of_row w b _ cur _ (0, 0) hg, e _ (by omega), h3]
/-- 'l = append(l, x)', x a token. -/
theorem append_tk {ops : Array Oper} {rest : List Oper} {o : Oper} {a : Act} {Q : Exit → Act → World → Prop} {w : World} (hgd : o.guard = none) (s y : Operand)
    (ho : o.op = .call { callee := .builtin .append, args := #[s, y], argTypes := #[22, 22] })
    (x : TK) (v : Value) (l : List TK) (hs : a.eval s = v) (hown : w.ownsRow 0 34 3 v l.length (tkL l)) (H : Nat) (hH : w.heap.size = H) (hx : a.eval y = .slice (some ⟨H, 0, none⟩) 1 1)
    (hn : l.length ≤ 1099511627776)
    (h : ∀ v' w', w'.ownsRow 0 34 3 v' (l ++ [x]).length (tkL (l ++ [x])) → Moved w w' (ownS v) (ownS v') → wpList Try.prog ops Q rest (a.put o.dst v') w') : wpList Try.prog ops Q (o :: rest) a (w.alloc (.cells (tkC x) 34)) := by
  subst hH
  have hinf : ((Try.prog.info? 34).map fun i => (i.zero, i.size, i.bytes)) = some (some (tkV tk0), 3, 40) := by kernel_rfl
  obtain ⟨i, hi, he⟩ := Option.map_eq_some_iff.1 hinf
  simp only [Prod.mk.injEq] at he
  refine wpList_append_own_at _ hgd s y 22 ho 0 34 i (tkV tk0) 3 40 Try.underlying22 hi he.1 he.2.1 he.2.2 rfl (by decide) v l.length (tkL l) hs (hown.alloc _) ⟨w.heap.size, 0, none⟩ 1 1 (tkl x) hx rfl ?_ ?_ (by unfold maxLen; omega) (by omega) (Nat.zero_le _) ?_
  · intro j u hj
    have hA := Arr.new w 34 (tkC x)
    have hlt := (List.getElem?_eq_some_iff.1 hj).1
    have e : (⟨w.heap.size, 0, none⟩ : Addr).add j = ⟨w.heap.size, j, none⟩ := by unfold Addr.add; split <;> simp_all
    rw [e, hA.cell, ← hj]
    show (tkl x).toArray[j]? = _
    rw [List.getElem?_toArray]
  · intro u hu; simp [tkl] at hu; rcases hu with rfl | rfl | rfl <;> rfl
  · intro v' w' ho' hg _ hl
    refine h v' w' (by rw [tkL_snoc, List.length_append]; exact ho') (Moved.of_grown ((World.grownBy_alloc w _ _).trans hg) ?_)
    rcases hl with hl | hl
    · exact .inl hl
    · rw [sz_alloc] at hl; exact .inr ⟨_, hl, Nat.le_succ _⟩

/-- Are there few tokens, of few bytes? -/
def few10 (l : List TK) : Bool := decide (l.length ≤ 60 ∧ ∀ k, k < l.length → (l.getD k tk0).nm.size ≤ 100 ∧ (l.getD k tk0).vl.size ≤ 300)
theorem few10_len {l : List TK} (h : few10 l = true) : l.length ≤ 60 ∧ ∀ k, k < l.length → (l.getD k tk0).nm.size ≤ 100 ∧ (l.getD k tk0).vl.size ≤ 300 := of_decide_eq_true h
set_option maxHeartbeats 800000 in
set_option maxRecDepth 100000 in
theorem rfew10_any (A : Option Addr) (cap : Nat) (l : List TK) (w : World) (hr : RdTk w A l) (hl : l.length ≤ maxLen) :
    Calls Try.prog 6 #[.slice A l.length cap] w fun e w' => e = .returned (.bool (few10 l)) ∧ w = w' := by
  unfold maxLen at hl
  have HR := Lib.hid hr
  have HF1 : Hid (∀ k, k < l.length → (100 < (l.getD k tk0).nm.size ∨ 300 < (l.getD k tk0).vl.size) → few10 l = false) := fun k hk h => decide_eq_false (fun hh => by have := hh.2 k hk; omega)
  have HF2 : Hid (60 < l.length → few10 l = false) := fun h => decide_eq_false (fun hh => by omega)
  have HF3 : Hid (l.length ≤ 60 → (∀ k, k < l.length → (l.getD k tk0).nm.size ≤ 100 ∧ (l.getD k tk0).vl.size ≤ 300) → few10 l = true) := fun h1 h2 => decide_eq_true ⟨h1, h2⟩
  generalize few10 l = R at *
  clear hr
  go_enter Try.func6, Try.ntmps6
  go_wp2
  go_loop [3] (fun i => ∃ k : Nat, k ≤ l.length ∧ k ≤ 60 ∧ i = .int .i64 k ∧ Hid (∀ j, j < k → (l.getD j tk0).nm.size ≤ 100 ∧ (l.getD j tk0).vl.size ≤ 300)) (fun i => l.length - (intOf i).toNat)
  case atStart => exact ⟨0, Nat.zero_le _, by omega, rfl, fun j h => absurd h (by omega)⟩
  case round =>
    obtain ⟨k, hk, hk40, rfl, HK⟩ := hrel
    by_cases hlt : k < l.length
    · have hd1 : decide ((k : Int) < l.length) = true := decide_eq_true (by omega)
      have hki : (k : Int) < l.length := by omega
      by_cases h40 : k < 60
      · obtain ⟨b, off, x, rfl, ⟨hc0, hc1, hc2⟩, HX⟩ := HR.out.at_ hlt
        have hd2 : decide ((k : Int) < 60) = true := decide_eq_true (by omega)
        obtain ⟨kd, nm, vl⟩ := x
        simp only at hc0 hc1 hc2
        by_cases h100 : nm.size ≤ 100
        · have hd : decide ((100 : Int) < nm.size) = false := decide_eq_false (by omega)
          by_cases h300 : vl.size ≤ 300
          · have hd3 : decide ((300 : Int) < vl.size) = false := decide_eq_false (by omega)
            have HK1 : Hid (∀ j, j < k + 1 → (l.getD j tk0).nm.size ≤ 100 ∧ (l.getD j tk0).vl.size ≤ 300) := fun j hj => by
              by_cases e : j = k
              · subst e; rw [HX.out]; exact ⟨h100, h300⟩
              · exact HK.out j (by omega)
            clear HX
            go_wp2
            go_round
            case rel => exact ⟨k + 1, by omega, by omega, by go_num, HK1⟩
            case measure => simp [intOf]; omega
          · have hd3 : decide ((300 : Int) < vl.size) = true := decide_eq_true (by omega)
            have HE := Lib.hid (HF1.out k hlt (by rw [HX.out]; right; show 300 < vl.size; omega))
            clear HX
            go_wp2
            go_ret
            exact ⟨by rw [HE.out]; rfl, rfl⟩
        · have hd : decide ((100 : Int) < nm.size) = true := decide_eq_true (by omega)
          have HE := Lib.hid (HF1.out k hlt (by rw [HX.out]; left; show 100 < nm.size; omega))
          clear HX
          go_wp2
          go_ret
          exact ⟨by rw [HE.out]; rfl, rfl⟩
      · have hd2 : decide ((k : Int) < 60) = false := decide_eq_false (by omega)
        have hd3 : decide ((l.length : Int) ≤ 60) = false := decide_eq_false (by omega)
        have HE := Lib.hid (HF2.out (by omega))
        go_wp2
        go_ret
        exact ⟨by rw [HE.out]; rfl, rfl⟩
    · obtain rfl : k = l.length := by omega
      have hd1 : decide ((l.length : Int) < l.length) = false := decide_eq_false (by omega)
      have hd3 : decide ((l.length : Int) ≤ 60) = true := decide_eq_true (by omega)
      have HE := Lib.hid (HF3.out hk40 HK.out)
      go_wp2
      go_ret
      exact ⟨by rw [HE.out]; rfl, rfl⟩

set_option maxHeartbeats 800000 in
set_option maxRecDepth 100000 in
theorem sameTk_any (A A' : Option Addr) (cap cap' : Nat) (l : List TK) (w : World) (hl : l.length ≤ 1099511627776) (hr : RdTk w A l) (hr' : RdTk w A' l) :
    Calls Try.prog 10 #[.slice A l.length cap, .slice A' l.length cap'] w fun e w' => e = .returned (.bool true) ∧ Below w.heap.size w w' := by
  have HR := Lib.hid hr
  have HR' := Lib.hid hr'
  clear hr hr'
  go_enter Try.func10, Try.ntmps10
  go_wp2
  go_loopw [5] (fun i wr => ∃ k : Nat, k ≤ l.length ∧ i = .int .i64 k ∧ Below w.heap.size w wr) (fun i _ => l.length - (intOf i).toNat)
  case atStart => exact ⟨0, Nat.zero_le _, rfl, Below.refl _ _⟩
  case round =>
    obtain ⟨k, hk, rfl, hb⟩ := hrel
    have hsz := hb.size
    have HB := Lib.hid hb
    clear hb
    by_cases hlt : k < l.length
    · have hki : (k : Int) < l.length := by omega
      obtain ⟨b, off, x, rfl, ⟨h1, h2, h3⟩, HX⟩ := (HR.out.below HB.out).at_ hlt
      obtain ⟨b', off', x', rfl, ⟨g1, g2, g3⟩, HX'⟩ := (HR'.out.below HB.out).at_ hlt
      obtain rfl : x = x' := HX.out.symm.trans HX'.out
      obtain ⟨kd, nm, vl⟩ := x
      simp only at h1 h2 h3 g1 g2 g3
      go_wp2
      go_quiet (fail)
      have hb2 : Below w.heap.size w (wr.drewN nq) := HB.out.trans ((below_drewN _ _).mono hsz)
      go_wp2
      go_roundw
      case rel => exact ⟨k + 1, by omega, by go_num, hb2⟩
      case measure => simp [intOf]; omega
    · obtain rfl : k = l.length := by omega
      go_wp2
      go_ret
      exact ⟨rfl, HB.out⟩

theorem plain_snoc (l : List TK) {k : Nat} (hk : k < l.length) {x : TK} (hx : l.getD k tk0 = x) : plainR (l.take (k + 1)) = if x.kd = 4 then plainR (l.take k) else plainR (l.take k) ++ [x] := by
  have e : l.take (k + 1) = l.take k ++ [x] := by
    rw [List.take_succ_eq_append_getElem hk, ← hx, List.getD_eq_getElem?_getD, List.getElem?_eq_getElem hk]; rfl
  rw [e]
  unfold plainR
  rw [List.filter_append]
  by_cases h : x.kd = 4 <;> simp [h]
theorem plain_len (l : List TK) : (plainR l).length ≤ l.length := List.length_filter_le _ _
set_option maxHeartbeats 1600000 in
set_option maxRecDepth 100000 in
theorem rplain_any (A : Option Addr) (cap : Nat) (l : List TK) (w : World) (hr : RdTk w A l) (hl : l.length ≤ 2000) :
    Calls Try.prog 12 #[.slice A l.length cap] w fun e w' => ∃ v, e = .returned v ∧ w'.ownsRow w.heap.size 34 3 v (plainR l).length (tkL (plainR l)) ∧ Below w.heap.size w w' := by
  have HR := Lib.hid hr
  clear hr
  go_enter Try.func12, Try.ntmps12
  go_wp2
  go_loopw [3, 4] (fun v i wr => ∃ k : Nat, k ≤ l.length ∧ i = .int .i64 k ∧ wr.ownsRow 0 34 3 v (plainR (l.take k)).length (tkL (plainR (l.take k))) ∧ (∀ j, v.ownBlock = some j → w.heap.size ≤ j) ∧ Below w.heap.size w wr) (fun _ i _ => l.length - (intOf i).toNat)
  case atStart => exact ⟨0, Nat.zero_le _, rfl, World.ownsRow_nil _ _ _ _, (fun _ hj => nomatch hj), Below.refl _ _⟩
  case round =>
    obtain ⟨k, hk, rfl, hown, hbl, hb⟩ := hrel
    have HB := Lib.hid hb
    have HOWN := Lib.hid hown
    have HBL := Lib.hid hbl
    have hsz := hb.size
    clear hb hown hbl
    by_cases hlt : k < l.length
    · have hki : (k : Int) < l.length := by omega
      obtain ⟨b, off, x, rfl, ⟨h1, h2, h3⟩, HX⟩ := (HR.out.below HB.out).at_ hlt
      have HS := Lib.hid (plain_snoc l hlt HX.out)
      have hpl : (plainR (l.take k)).length ≤ 2000 := by have := plain_len (l.take k); rw [List.length_take] at this; omega
      obtain ⟨kd, nm, vl⟩ := x
      simp only at h1 h2 h3 HS
      clear HX
      by_cases h4 : kd = 4
      · subst h4
        rw [if_pos rfl] at HS
        rw [← HS.out] at HOWN
        clear HS
        go_wp2
        go_roundw
        case rel => exact ⟨k + 1, by omega, by go_num, HOWN.out, HBL.out, HB.out⟩
        case measure => simp [intOf]; omega
      · rw [if_neg h4] at HS
        have d4 : (kd != 4) = true := by simpa using h4
        clear h4
        generalize plainR (l.take k) = P at *
        go_wp2_with (at_builtin; refine append_tk rfl (.tmp 17) (.tmp 22) rfl ⟨kd, nm, vl⟩ _ P rfl HOWN.out wr.heap.size rfl rfl (by omega) ?_; intro v2 w2 ho2 hm2; have HO2 := Lib.hid ho2; have HM2 := Lib.hid hm2; clear ho2 hm2)
        have HB2 := Lib.hid (HB.out.trans (HM2.out.below HBL.out hsz))
        go_roundw
        case rel => exact ⟨k + 1, by omega, by go_num, by rw [HS.out]; exact HO2.out, (fun j hj => by
          rcases HM2.out.foot j hj with h5 | h5
          · exact HBL.out j h5
          · exact Nat.le_trans hsz h5), HB2.out⟩
        case measure => simp [intOf]; omega
    · obtain rfl : k = l.length := by omega
      rw [List.take_length] at HOWN
      go_wp2
      go_ret
      exact ⟨_, rfl, ow_base HOWN.out HBL.out, HB.out⟩

set_option maxHeartbeats 1600000 in
set_option maxRecDepth 100000 in
theorem rbare_any (x : TK) (w : World) : Calls Try.prog 15 #[tkV x] w fun e w' => e = .returned (tkV (bare x)) ∧ Below w.heap.size w w' := by
  have HAX : Hid (Arr ((w.alloc (.cells (tkC x) 34)).alloc (.cells (tkC tk0) 34)) w.heap.size 34 (tkC x)) := (Arr.new w _ _).alloc _
  have HAR : Hid (Arr ((w.alloc (.cells (tkC x) 34)).alloc (.cells (tkC tk0) 34)) (w.heap.size + 1) 34 (tkC tk0)) := Arr.new1 w _ _ _
  have HB : Hid (Below w.heap.size w ((w.alloc (.cells (tkC x) 34)).alloc (.cells (tkC tk0) 34))) := ((Below.refl _ _).alloc (Nat.le_refl _) _).alloc (by rw [sz_alloc]; omega) _
  obtain ⟨kd, nm, vl⟩ := x
  by_cases h1 : kd = 1
  · subst h1
    have HE : Hid (bare ⟨1, nm, vl⟩ = ⟨1, nm, ByteArray.empty⟩) := rfl
    rw [HE.out]
    show Calls Try.prog _ #[.agg #[.int .i64 1, .string nm, .string vl]] w _
    go_enter Try.func15, Try.ntmps15
    go_wp2_with (refine wpList_store_row rfl 34 (.tmp 2) (.tmp 11) rfl (w.heap.size + 1) (tkC ⟨1, nm, ByteArray.empty⟩) rfl rfl _ _ HAR.out (infoTk _) rfl (tkC_one _) ?_)
    exact bodyPost_ret (v := tkV ⟨1, nm, ByteArray.empty⟩) (results_cell_row rfl _ _ (w.heap.size + 1) _ (tkC ⟨1, nm, ByteArray.empty⟩) _ _ rfl (HAR.out.row _) Try.underlying34 rfl (infoTk _)) rfl ⟨rfl, below_setRow HB.out (Nat.le_succ _) _⟩
  · have d1 : (kd == 1) = false := by simpa using h1
    by_cases h3 : kd = 3
    · subst h3
      have HE : Hid (bare ⟨3, nm, vl⟩ = ⟨3, nm, vl⟩) := rfl
      rw [HE.out]
      show Calls Try.prog _ #[.agg #[.int .i64 3, .string nm, .string vl]] w _
      go_enter Try.func15, Try.ntmps15
      go_wp2_with (first | (refine wpList_load_row rfl 34 (.tmp 1) rfl w.heap.size rfl _ (tkC ⟨3, nm, vl⟩) _ _ HAX.out Try.underlying34 rfl (infoTk _) ?_) | (refine wpList_store_row rfl 34 (.tmp 2) (.tmp 14) rfl (w.heap.size + 1) (tkC ⟨3, nm, vl⟩) rfl rfl _ _ HAR.out (infoTk _) rfl (tkC_one _) ?_))
      exact bodyPost_ret (v := tkV ⟨3, nm, vl⟩) (results_cell_row rfl _ _ (w.heap.size + 1) _ (tkC ⟨3, nm, vl⟩) _ _ rfl (HAR.out.row _) Try.underlying34 rfl (infoTk _)) rfl ⟨rfl, below_setRow HB.out (Nat.le_succ _) _⟩
    · have d3 : (kd == 3) = false := by simpa using h3
      have HE : Hid (bare ⟨kd, nm, vl⟩ = ⟨kd, ByteArray.empty, ByteArray.empty⟩) := by unfold Hid bare; rw [if_neg h1, if_neg h3]
      clear h1 h3
      rw [HE.out]
      show Calls Try.prog _ #[.agg #[.int .i64 kd, .string nm, .string vl]] w _
      go_enter Try.func15, Try.ntmps15
      go_wp2_with (refine wpList_store_row rfl 34 (.tmp 2) (.tmp 17) rfl (w.heap.size + 1) (tkC ⟨kd, ByteArray.empty, ByteArray.empty⟩) rfl rfl _ _ HAR.out (infoTk _) rfl (tkC_one _) ?_)
      exact bodyPost_ret (v := tkV ⟨kd, ByteArray.empty, ByteArray.empty⟩) (results_cell_row rfl _ _ (w.heap.size + 1) _ (tkC ⟨kd, ByteArray.empty, ByteArray.empty⟩) _ _ rfl (HAR.out.row _) Try.underlying34 rfl (infoTk _)) rfl ⟨rfl, below_setRow HB.out (Nat.le_succ _) _⟩
end Go.Proofs.Ytdflflcidajenaa
