/- What the document's Offsets, Few and SameInts return, and that awake() of layer 9's statements returns true. Conditions: Offsets: a slice that reads as at most 40 strings, each of which fits; SameInts: two slices that read as the same numbers. -/
import Derived.Test.YtcmeikdfkjlemaaStF
import Derived.IntWalk
namespace Go.Proofs.Ytcmeikdfkjlemaa
open Go.RowKit

/-- A Block of the document's that the call has made, and a slice of places beside it. -/
def Ox9 (B : Nat) (w : World) (g : Nat) (u : Value) (L : List ByteArray) (P : List Nat) : Prop :=
  ∃ lv av, RX w g lv av L ∧ (∀ k, fpX g lv av k → B ≤ k) ∧ w.ownsRow 0 3 1 u P.length (natV P) ∧ (∀ k, u.ownBlock = some k → B ≤ k ∧ ¬ fpX g lv av k)
theorem own_lt {w : World} {base e size n : Nat} {u : Value} {xs : List Value} (ho : w.ownsRow base e size u n xs) {k : Nat} (hk : u.ownBlock = some k) : k < w.heap.size := by
  obtain ⟨cur, hc⟩ := ow_type ho hk
  exact (Array.getElem?_eq_some_iff.1 hc).1
section
variable {B : Nat} {w w' : World} {g : Nat} {u u' : Value} {L : List ByteArray} {P P' : List Nat}
theorem ox9_add (h : Ox9 B w g u L P) (hB : B ≤ w.heap.size) (s : ByteArray) (hs : s.size ≤ maxLen) (hL : L.length ≤ 1073741824) :
    Calls Try.prog 8 #[.pointer (some ⟨g, 0, none⟩), .string s] w fun e w' => e = .returned (.tuple #[.int .i64 ((addV L s).1 : Int), .int .i64 ((addV L s).2 : Int)]) ∧ Ox9 B w' g u (addA L s) P ∧ Below B w w' := by
  obtain ⟨lv, av, h1, h2, h3, h4⟩ := h
  refine (radd_any g lv av L s w h1 hs hL).mono ?_
  rintro e w' ⟨he, lv', av', hb, hm⟩
  refine ⟨he, ⟨lv', av', hb, fun k hk => ?_, hm.row h3 (fun k hk => (h4 k hk).2), fun k hk => ⟨(h4 k hk).1, fun hf => ?_⟩⟩, hm.below h2 hB⟩
  · rcases hm.foot k hk with h5 | h5
    · exact h2 k h5
    · exact Nat.le_trans hB h5
  · rcases hm.foot k hf with h5 | h5
    · exact (h4 k hk).2 h5
    · have := own_lt h3 hk; omega
theorem ox9_put (h : Ox9 B w g u L P) (hB : B ≤ w.heap.size) (ho : w'.ownsRow 0 3 1 u' P'.length (natV P')) (hm : Moved w w' (ownS u) (ownS u')) : Ox9 B w' g u' L P' ∧ Below B w w' := by
  obtain ⟨lv, av, h1, h2, h3, h4⟩ := h
  refine ⟨⟨lv, av, h1.kept hm (fun k hk hu => (h4 k hu).2 hk), h2, ho, fun k hk => ?_⟩, hm.below (fun k hk => (h4 k hk).1) hB⟩
  rcases hm.foot k hk with h5 | h5
  · exact h4 k h5
  · exact ⟨Nat.le_trans hB h5, fun hf => by have := h1.lt hf; omega⟩
theorem ox9_cell (h : Ox9 B w g u L P) : w.cell? ⟨g, 2, none⟩ = some (.string ⟨(flat L).toArray⟩) := by
  obtain ⟨lv, av, h1, _⟩ := h
  exact h1.1.cell 2
theorem ox9_row (h : Ox9 B w g u L P) : w.ownsRow 0 3 1 u P.length (natV P) ∧ w.ownsRow B 3 1 u P.length (natV P) := by
  obtain ⟨lv, av, _, _, h3, h4⟩ := h
  exact ⟨h3, ow_base h3 (fun k hk => (h4 k hk).1)⟩
theorem ox9_new (w : World) : Ox9 w.heap.size (w.alloc (.cells #[.slice none 0 0, .slice none 0 0, .string ⟨#[]⟩] 33)) w.heap.size (.slice none 0 0) [] [] :=
  ⟨.slice none 0 0, .slice none 0 0, ⟨Arr.new _ _ _, World.ownsRow_nil _ _ _ _, World.ownsRow_nil _ _ _ _, okL_nil⟩, (fun k hk => by
    rcases hk with hk | hk | hk
    · exact Nat.le_of_eq hk.symm
    · cases hk
    · cases hk), World.ownsRow_nil _ _ _ _, (fun _ hk => nomatch hk)⟩
end

set_option maxHeartbeats 1600000 in
set_option maxRecDepth 100000 in
theorem roffsets_any (A : Option Addr) (cap : Nat) (l : List ByteArray) (w : World) (hr : RdT w A l) (hl : l.length ≤ 40) (hz : ∀ k, k < l.length → (l.getD k ByteArray.empty).size ≤ maxLen) :
    Calls Try.prog 11 #[.slice A l.length cap] w fun e w' => ∃ v, e = .returned (.tuple #[v, .string (offS l), .int .i64 (offE l : Int)]) ∧ w'.ownsRow w.heap.size 3 1 v (offN l).length (natV (offN l)) ∧ Below w.heap.size w w' := by
  have HR := Lib.hid hr
  have HZ := Lib.hid hz
  have HEL := Lib.hid elemI
  have HGO := Lib.hid (off_good (l := l))
  have HBA := Lib.hid (off_bad (l := l))
  generalize offS l = oS at *
  generalize offE l = oE at *
  generalize offN l = oN at *
  have HS0 := Lib.hid (ox9_new w)
  have HB0 := Lib.hid ((Below.refl w.heap.size w).alloc (Nat.le_refl _) (.cells #[.slice none 0 0, .slice none 0 0, .string ⟨#[]⟩] 33))
  clear hr hz
  go_enter Try.func11, Try.ntmps11
  go_wp2
  generalize w.alloc (.cells #[.slice none 0 0, .slice none 0 0, .string ⟨#[]⟩] 33) = w0 at *
  obtain ⟨g, hg⟩ : ∃ g, g = w.heap.size := ⟨_, rfl⟩
  have HS1 : Hid (Ox9 w.heap.size w0 g (.slice none 0 0) [] []) := by rw [hg]; exact HS0.out
  simp only [← hg]
  go_loopw [6, 7] (fun u i wr => ∃ k : Nat, k ≤ l.length ∧ i = .int .i64 k ∧ Ox9 w.heap.size wr g u (adds [] (l.take k)) (plc [] (l.take k)) ∧ Below w.heap.size w wr ∧ Hid (∀ j, j < k → mayB (l.getD j ByteArray.empty) = true)) (fun _ i _ => l.length - (intOf i).toNat)
  case atStart => exact ⟨0, Nat.zero_le _, rfl, HS1.out, HB0.out, fun j hj => absurd hj (by omega)⟩
  case round =>
    clear HS0 HB0 HS1 hg
    obtain ⟨k, hk, rfl, hof, hb, HALL⟩ := hrel
    have HOF := Lib.hid hof
    have HB := Lib.hid hb
    have hsz := hb.size
    clear hof hb
    by_cases hlt : k < l.length
    · have hki : (k : Int) < l.length := by omega
      obtain ⟨b, off, x, rfl, hc, HX⟩ := (HR.out.below HB.out).at_ hlt
      have hxs : x.size ≤ maxLen := by have := HZ.out k hlt; rwa [HX.out] at this
      have HLL : Hid ((adds [] (l.take k)).length ≤ 40) := by have := adds_len (l.take k) []; simp only [List.length_nil, List.length_take] at this; unfold Hid; omega
      have HAD := Lib.hid (ox9_add HOF.out hsz x hxs (by have := HLL.out; omega))
      have HTK : Hid (adds [] (l.take (k + 1)) = addA (adds [] (l.take k)) x ∧ plc [] (l.take (k + 1)) = plc [] (l.take k) ++ [posn (adds [] (l.take k)) x] ∧ (plc [] (l.take k)).length = k) := by
        unfold Hid
        rw [take_snoc' hlt HX.out, adds_snoc, plc_snoc, plc_length, List.length_take]
        exact ⟨rfl, rfl, by omega⟩
      cases hm : mayB x with
      | false =>
        have HBAD := Lib.hid (HBA.out (allB_at k hlt (by rw [HX.out]; exact hm)))
        have e1 : addV (adds [] (l.take k)) x = (0, 1) := by unfold addV; rw [hm]; rfl
        rw [e1] at HAD
        clear e1 hm HTK HX HBA HGO HOF HLL
        generalize adds [] (l.take k) = L at *
        generalize plc [] (l.take k) = P at *
        go_wp2_with fail
        refine HAD.out.mono ?_
        rintro e w1 ⟨rfl, _, hb1⟩
        have HB1 := Lib.hid (HB.out.trans hb1)
        clear hb1 HAD HB
        go_wp2
        go_ret3
        exact ⟨_, by rw [HBAD.out.2.1, HBAD.out.2.2]; rfl, by rw [HBAD.out.1]; exact World.ownsRow_nil _ _ _ _, HB1.out⟩
      | true =>
        have e1 : addV (adds [] (l.take k)) x = (posn (adds [] (l.take k)) x, 0) := by unfold addV; rw [hm]; rfl
        rw [e1] at HAD
        have HALL1 : Hid (∀ j, j < k + 1 → mayB (l.getD j ByteArray.empty) = true) := by
          intro j hj
          by_cases e : j = k
          · subst e; rw [HX.out]; exact hm
          · exact HALL.out j (by omega)
        clear e1 hm HALL HX HBA HGO HOF HLL
        generalize adds [] (l.take k) = L at *
        generalize plc [] (l.take k) = P at *
        generalize posn L x = p at *
        go_wp2_with fail
        refine HAD.out.mono ?_
        rintro e w1 ⟨rfl, hof1, hb1⟩
        have HOF1 := Lib.hid hof1
        have HB1 := Lib.hid (HB.out.trans hb1)
        have hz1 := HB1.out.size
        have hpk := HTK.out.2.2
        clear hof1 hb1 HAD HB
        go_wp2_with (at_builtin; refine append_moved rfl (.tmp 30) (.tmp 32) 31 rfl 3 (.int .i64 0) 8 HEL (.int .i64 (p : Int)) rfl _ P.length (natV P) rfl (ox9_row HOF1.out).1 w1.heap.size rfl rfl (by omega) (by unfold maxLen; omega) ?_; intro u2 w2 ho2 hm2; have HOF2 := Lib.hid (ox9_put (P' := P ++ [p]) HOF1.out hz1 (by rw [natV_snoc, List.length_append]; exact ho2) hm2); clear ho2 hm2)
        go_roundw
        case rel => exact ⟨k + 1, by omega, by go_num, by rw [HTK.out.1, HTK.out.2.1]; exact HOF2.out.1, HB1.out.trans HOF2.out.2, HALL1⟩
        case measure => simp [intOf]; omega
    · obtain rfl : k = l.length := by omega
      have hgood := HGO.out (allB_all HALL.out)
      rw [List.take_length] at HOF
      have HGD := Lib.hid hgood
      have c2 := ox9_cell HOF.out
      obtain ⟨A', cap', rfl⟩ := slice_of (ox9_row HOF.out).1
      have HROW := Lib.hid (ox9_row HOF.out).2
      clear hgood HBA HGO HOF
      generalize (ByteArray.mk (flat (adds [] l)).toArray) = S at *
      go_wp2
      go_quiet (fail)
      have HB2 : Hid (Below w.heap.size w (wr.drewN nq)) := HB.out.trans ((below_drewN _ _).mono hsz)
      have HROW2 : Hid ((wr.drewN nq).ownsRow w.heap.size 3 1 _ _ _) := HROW.out
      go_wp2
      go_ret3
      exact ⟨_, by rw [HGD.out.2.1, HGD.out.2.2]; rfl, by rw [HGD.out.1]; exact HROW2.out, HB2.out⟩

/-- Are there few strings, of few bytes? -/
def few9 (l : List ByteArray) : Bool := decide (l.length ≤ 40 ∧ ∀ k, k < l.length → (l.getD k ByteArray.empty).size ≤ 100)
theorem few9_len {l : List ByteArray} (h : few9 l = true) : l.length ≤ 40 := (of_decide_eq_true h).1
set_option maxHeartbeats 800000 in
set_option maxRecDepth 100000 in
theorem rfew9_any (A : Option Addr) (cap : Nat) (l : List ByteArray) (w : World) (hr : RdT w A l) (hl : l.length ≤ maxLen) :
    Calls Try.prog 5 #[.slice A l.length cap] w fun e w' => e = .returned (.bool (few9 l)) ∧ w = w' := by
  unfold maxLen at hl
  have HR := Lib.hid hr
  have HF1 : Hid (∀ k, k < l.length → 100 < (l.getD k ByteArray.empty).size → few9 l = false) := fun k hk h => decide_eq_false (fun hh => by have := hh.2 k hk; omega)
  have HF2 : Hid (40 < l.length → few9 l = false) := fun h => decide_eq_false (fun hh => by omega)
  have HF3 : Hid (l.length ≤ 40 → (∀ k, k < l.length → (l.getD k ByteArray.empty).size ≤ 100) → few9 l = true) := fun h1 h2 => decide_eq_true ⟨h1, h2⟩
  generalize few9 l = R at *
  clear hr
  go_enter Try.func5, Try.ntmps5
  go_wp2
  go_loop [3] (fun i => ∃ k : Nat, k ≤ l.length ∧ k ≤ 40 ∧ i = .int .i64 k ∧ Hid (∀ j, j < k → (l.getD j ByteArray.empty).size ≤ 100)) (fun i => l.length - (intOf i).toNat)
  case atStart => exact ⟨0, Nat.zero_le _, by omega, rfl, fun j h => absurd h (by omega)⟩
  case round =>
    obtain ⟨k, hk, hk40, rfl, HK⟩ := hrel
    by_cases hlt : k < l.length
    · have hd1 : decide ((k : Int) < l.length) = true := decide_eq_true (by omega)
      by_cases h40 : k < 40
      · obtain ⟨b, off, x, rfl, hc, HX⟩ := HR.out.at_ hlt
        have hd2 : decide ((k : Int) < 40) = true := decide_eq_true (by omega)
        by_cases h100 : x.size ≤ 100
        · have hd : decide ((100 : Int) < x.size) = false := decide_eq_false (by omega)
          go_wp2
          go_round
          case rel => exact ⟨k + 1, by omega, by omega, by go_num, fun j hj => by
            by_cases e : j = k
            · subst e; rw [HX.out]; exact h100
            · exact HK.out j (by omega)⟩
          case measure => simp [intOf]; omega
        · have hd : decide ((100 : Int) < x.size) = true := decide_eq_true (by omega)
          have HE := Lib.hid (HF1.out k hlt (by rw [HX.out]; omega))
          go_wp2
          go_ret
          exact ⟨by rw [HE.out]; rfl, rfl⟩
      · have hd2 : decide ((k : Int) < 40) = false := decide_eq_false (by omega)
        have hd3 : decide ((l.length : Int) ≤ 40) = false := decide_eq_false (by omega)
        have HE := Lib.hid (HF2.out (by omega))
        go_wp2
        go_ret
        exact ⟨by rw [HE.out]; rfl, rfl⟩
    · obtain rfl : k = l.length := by omega
      have hd1 : decide ((l.length : Int) < l.length) = false := decide_eq_false (by omega)
      have hd3 : decide ((l.length : Int) ≤ 40) = true := decide_eq_true (by omega)
      have HE := Lib.hid (HF3.out hk40 HK.out)
      go_wp2
      go_ret
      exact ⟨by rw [HE.out]; rfl, rfl⟩

set_option maxHeartbeats 800000 in
set_option maxRecDepth 100000 in
theorem sameK_any (A A' : Option Addr) (cap cap' : Nat) (l : List Int) (w : World) (hl : l.length ≤ 1099511627776) (hr : RdK .i64 w A l) (hr' : RdK .i64 w A' l) :
    Calls Try.prog 14 #[.slice A l.length cap, .slice A' l.length cap'] w fun e w' => e = .returned (.bool true) ∧ Below w.heap.size w w' := by
  go_enter Try.func14, Try.ntmps14
  go_wp2
  go_loopw [5] (fun i wr => ∃ k : Nat, k ≤ l.length ∧ i = .int .i64 k ∧ Below w.heap.size w wr) (fun i _ => l.length - (intOf i).toNat)
  case atStart => exact ⟨0, Nat.zero_le _, rfl, Below.refl _ _⟩
  case round =>
    obtain ⟨k, hk, rfl, hb⟩ := hrel
    have hsz := hb.size
    by_cases hlt : k < l.length
    · obtain ⟨b, off, x, rfl, hc, HX⟩ := (hr.below hb).at_ hlt
      obtain ⟨b', off', x', rfl, hc', HX'⟩ := (hr'.below hb).at_ hlt
      obtain rfl : x = x' := HX.out.symm.trans HX'.out
      have hki : (k : Int) < l.length := by omega
      go_wp2
      go_quiet (fail)
      have hb2 : Below w.heap.size w (wr.drewN nq) := hb.trans ((below_drewN _ _).mono hsz)
      go_wp2
      go_roundw
      case rel => exact ⟨k + 1, by omega, by go_num, hb2⟩
      case measure => simp [intOf]; omega
    · have hkl : k = l.length := by omega
      subst hkl
      go_wp2
      go_ret
      exact ⟨rfl, hb⟩
end Go.Proofs.Ytcmeikdfkjlemaa
