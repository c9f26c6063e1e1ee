/- What Offsets returns. Conditions: a slice that reads as at most 40 strings, each of which fits. -/
import Derived.Test.YtcmeikdfkjlemaaStD
import Derived.Test.YtcmeikdfkjlemaaRdT
namespace Go.Proofs.Ytcmeikdfkjlemaa
open Go.RowKit Go.Maps Go.WideMaps

theorem elemI : ElemIs Try.prog 31 3 (.int .i64 0) 8 := elemIs_mk Try.underlying31 rfl (by kernel_rfl)
/-- Places as cells. -/
def natV (l : List Nat) : List Value := l.map fun (n : Nat) => Value.int .i64 (n : Int)
theorem natV_snoc (l : List Nat) (x : Nat) : natV (l ++ [x]) = natV l ++ [.int .i64 (x : Int)] := by simp [natV]
/-- What Offsets returns: the places, the bytes, the error. -/
def offN (l : List ByteArray) : List Nat := if allB l = true then plc [] l else []
def offS (l : List ByteArray) : ByteArray := if allB l = true then ⟨(flat (adds [] l)).toArray⟩ else ⟨#[]⟩
def offE (l : List ByteArray) : Nat := if allB l = true then 0 else 1
theorem off_bad {l : List ByteArray} (h : allB l = false) : offN l = [] ∧ offS l = ⟨#[]⟩ ∧ offE l = 1 := by
  unfold offN offS offE; rw [h]; exact ⟨rfl, rfl, rfl⟩
theorem off_good {l : List ByteArray} (h : allB l = true) : offN l = plc [] l ∧ offS l = ⟨(flat (adds [] l)).toArray⟩ ∧ offE l = 0 := by
  unfold offN offS offE; rw [h]; exact ⟨rfl, rfl, rfl⟩
theorem BK.not_row {w : World} {g : Nat} {v : Value} {m : Option Nat} {L : List ByteArray} (h : BK w g v m L) {base e size n : Nat} {u : Value} {xs : List Value} (ho : w.ownsRow base e size u n xs) (h1 : e ≠ 29) (h2 : e ≠ 5) {k : Nat} (hk : u.ownBlock = some k) : ¬ fpB g v m k := by
  obtain ⟨cur, hc⟩ := ow_type ho hk
  exact h.not_arr (g' := k) (t := e) (cs := cur) hc h1 h2
/-- A Block that the call has made, and a slice of places. -/
def Of9 (B : Nat) (w : World) (g : Nat) (u : Value) (L : List ByteArray) (P : List Nat) : Prop :=
  ∃ v m, BK w g v m L ∧ (∀ k, fpB g v m k → B ≤ k) ∧ w.ownsRow 0 3 1 u P.length (natV P) ∧ (∀ k, u.ownBlock = some k → B ≤ k)
section
variable {B : Nat} {w w' : World} {g : Nat} {u u' : Value} {L : List ByteArray} {P P' : List Nat}
theorem of9_add (h : Of9 B w g u L P) (hB : B ≤ w.heap.size) (s : ByteArray) (hs : s.size ≤ maxLen) (hL : L.length ≤ 1073741824) :
    Calls Try.prog 7 #[.pointer (some ⟨g, 0, none⟩), .string s] w fun e w' => e = .returned (.tuple #[.int .i64 ((addV L s).1 : Int), .int .i64 ((addV L s).2 : Int)]) ∧ Of9 B w' g u (addA L s) P ∧ Below B w w' := by
  obtain ⟨v, m, h1, h2, h3, h4⟩ := h
  refine (sadd_any g v m L s w h1 hs hL).mono ?_
  rintro e w' ⟨he, v', m', hb, hm⟩
  refine ⟨he, ⟨v', m', hb, fun k hk => ?_, hm.row h3 (fun k hk => h1.not_row h3 (by decide) (by decide) hk), h4⟩, hm.below h2 hB⟩
  rcases hm.foot k hk with h5 | h5
  · exact h2 k h5
  · exact Nat.le_trans hB h5
theorem of9_put (h : Of9 B w g u L P) (hB : B ≤ w.heap.size) (ho : w'.ownsRow 0 3 1 u' P'.length (natV P')) (hm : Moved w w' (ownS u) (ownS u')) : Of9 B w' g u' L P' ∧ Below B w w' := by
  obtain ⟨v, m, h1, h2, h3, h4⟩ := h
  refine ⟨⟨v, m, h1.kept hm (fun k hk hu => h1.not_row h3 (by decide) (by decide) hu hk), h2, ho, fun k hk => ?_⟩, hm.below h4 hB⟩
  rcases hm.foot k hk with h5 | h5
  · exact h4 k h5
  · exact Nat.le_trans hB h5
theorem of9_bytes (h : Of9 B w g u L P) : Calls Try.prog 9 #[.pointer (some ⟨g, 0, none⟩)] w fun e w' => e = .returned (.string ⟨(flat L).toArray⟩) ∧ w = w' := by
  obtain ⟨v, m, h1, _⟩ := h
  exact sbytes_any g v m L w h1
theorem of9_row (h : Of9 B w g u L P) : w.ownsRow 0 3 1 u P.length (natV P) ∧ w.ownsRow B 3 1 u P.length (natV P) := by
  obtain ⟨v, m, _, _, h3, h4⟩ := h
  exact ⟨h3, ow_base h3 h4⟩
theorem of9_new (w : World) : Of9 w.heap.size (w.alloc (.cells #[.slice none 0 0, .map none, .int .i64 0] 29)) w.heap.size (.slice none 0 0) [] [] :=
  ⟨.slice none 0 0, none, .inl ⟨rfl, rfl, rfl, Arr.new _ _ _⟩, (fun k hk => by
    rcases hk with hk | hk | hk
    · exact Nat.le_of_eq hk.symm
    · cases hk
    · cases hk), World.ownsRow_nil _ _ _ _, (fun _ hk => nomatch hk)⟩
end

set_option maxHeartbeats 1600000 in
set_option maxRecDepth 100000 in
theorem soffsets_any (A : Option Addr) (cap : Nat) (l : List ByteArray) (w : World) (hr : RdT w A l) (hl : l.length ≤ 40) (hz : ∀ k, k < l.length → (l.getD k ByteArray.empty).size ≤ maxLen) :
    Calls Try.prog 10 #[.slice A l.length cap] w fun e w' => ∃ v, e = .returned (.tuple #[v, .string (offS l), .int .i64 (offE l : Int)]) ∧ w'.ownsRow w.heap.size 3 1 v (offN l).length (natV (offN l)) ∧ Below w.heap.size w w' := by
  have HR := Lib.hid hr
  have HZ := Lib.hid hz
  have HEL := Lib.hid elemI
  have HGO := Lib.hid (off_good (l := l))
  have HBA := Lib.hid (off_bad (l := l))
  generalize offS l = oS at *
  generalize offE l = oE at *
  generalize offN l = oN at *
  have HS0 := Lib.hid (of9_new w)
  have HB0 := Lib.hid ((Below.refl w.heap.size w).alloc (Nat.le_refl _) (.cells #[.slice none 0 0, .map none, .int .i64 0] 29))
  clear hr hz
  go_enter Try.func10, Try.ntmps10
  go_wp2
  generalize w.alloc (.cells #[.slice none 0 0, .map none, .int .i64 0] 29) = w0 at *
  obtain ⟨g, hg⟩ : ∃ g, g = w.heap.size := ⟨_, rfl⟩
  have HS1 : Hid (Of9 w.heap.size w0 g (.slice none 0 0) [] []) := by rw [hg]; exact HS0.out
  simp only [← hg]
  go_loopw [6, 13] (fun u i wr => ∃ k : Nat, k ≤ l.length ∧ i = .int .i64 k ∧ Of9 w.heap.size wr g u (adds [] (l.take k)) (plc [] (l.take k)) ∧ Below w.heap.size w wr ∧ Hid (∀ j, j < k → mayB (l.getD j ByteArray.empty) = true)) (fun _ i _ => l.length - (intOf i).toNat)
  case atStart => exact ⟨0, Nat.zero_le _, rfl, HS1.out, HB0.out, fun j hj => absurd hj (by omega)⟩
  case round =>
    clear HS0 HB0 HS1 hg
    obtain ⟨k, hk, rfl, hof, hb, HALL⟩ := hrel
    have HOF := Lib.hid hof
    have HB := Lib.hid hb
    have hsz := hb.size
    clear hof hb
    by_cases hlt : k < l.length
    · have hki : (k : Int) < l.length := by omega
      obtain ⟨b, off, x, rfl, hc, HX⟩ := (HR.out.below HB.out).at_ hlt
      have hxs : x.size ≤ maxLen := by have := HZ.out k hlt; rwa [HX.out] at this
      have HLL : Hid ((adds [] (l.take k)).length ≤ 40) := by have := adds_len (l.take k) []; simp only [List.length_nil, List.length_take] at this; unfold Hid; omega
      have HAD := Lib.hid (of9_add HOF.out hsz x hxs (by have := HLL.out; omega))
      have HTK : Hid (adds [] (l.take (k + 1)) = addA (adds [] (l.take k)) x ∧ plc [] (l.take (k + 1)) = plc [] (l.take k) ++ [posn (adds [] (l.take k)) x] ∧ (plc [] (l.take k)).length = k) := by
        unfold Hid
        rw [take_snoc' hlt HX.out, adds_snoc, plc_snoc, plc_length, List.length_take]
        exact ⟨rfl, rfl, by omega⟩
      cases hm : mayB x with
      | false =>
        have HBAD := Lib.hid (HBA.out (allB_at k hlt (by rw [HX.out]; exact hm)))
        have e1 : addV (adds [] (l.take k)) x = (0, 1) := by unfold addV; rw [hm]; rfl
        rw [e1] at HAD
        clear e1 hm HTK HX HBA HGO HOF HLL
        generalize adds [] (l.take k) = L at *
        generalize plc [] (l.take k) = P at *
        go_wp2_with fail
        refine HAD.out.mono ?_
        rintro e w1 ⟨rfl, _, hb1⟩
        have HB1 := Lib.hid (HB.out.trans hb1)
        clear hb1 HAD HB
        go_wp2
        go_ret3
        exact ⟨_, by rw [HBAD.out.2.1, HBAD.out.2.2]; rfl, by rw [HBAD.out.1]; exact World.ownsRow_nil _ _ _ _, HB1.out⟩
      | true =>
        have e1 : addV (adds [] (l.take k)) x = (posn (adds [] (l.take k)) x, 0) := by unfold addV; rw [hm]; rfl
        rw [e1] at HAD
        have HALL1 : Hid (∀ j, j < k + 1 → mayB (l.getD j ByteArray.empty) = true) := by
          intro j hj
          by_cases e : j = k
          · subst e; rw [HX.out]; exact hm
          · exact HALL.out j (by omega)
        clear e1 hm HALL HX HBA HGO HOF HLL
        generalize adds [] (l.take k) = L at *
        generalize plc [] (l.take k) = P at *
        generalize posn L x = p at *
        go_wp2_with fail
        refine HAD.out.mono ?_
        rintro e w1 ⟨rfl, hof1, hb1⟩
        have HOF1 := Lib.hid hof1
        have HB1 := Lib.hid (HB.out.trans hb1)
        have hz1 := HB1.out.size
        have hpk := HTK.out.2.2
        clear hof1 hb1 HAD HB
        go_wp2_with (at_builtin; refine append_moved rfl (.tmp 25) (.tmp 27) 31 rfl 3 (.int .i64 0) 8 HEL (.int .i64 (p : Int)) rfl _ P.length (natV P) rfl (of9_row HOF1.out).1 w1.heap.size rfl rfl (by omega) (by unfold maxLen; omega) ?_; intro u2 w2 ho2 hm2; have HOF2 := Lib.hid (of9_put (P' := P ++ [p]) HOF1.out hz1 (by rw [natV_snoc, List.length_append]; exact ho2) hm2); clear ho2 hm2)
        go_roundw
        case rel => exact ⟨k + 1, by omega, by go_num, by rw [HTK.out.1, HTK.out.2.1]; exact HOF2.out.1, HB1.out.trans HOF2.out.2, HALL1⟩
        case measure => simp [intOf]; omega
    · obtain rfl : k = l.length := by omega
      have hgood := HGO.out (allB_all HALL.out)
      rw [List.take_length] at HOF
      have HGD := Lib.hid hgood
      clear hgood HBA HGO
      have HBY := Lib.hid (of9_bytes HOF.out)
      generalize (ByteArray.mk (flat (adds [] l)).toArray) = S at *
      go_wp2_with fail
      refine HBY.out.mono ?_
      rintro e w1 ⟨rfl, rfl⟩
      go_wp2
      go_ret3
      exact ⟨_, by rw [HGD.out.2.1, HGD.out.2.2]; rfl, by rw [HGD.out.1]; exact (of9_row HOF.out).2, HB.out⟩
end Go.Proofs.Ytcmeikdfkjlemaa
