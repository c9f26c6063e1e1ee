/- What the reader's steps kind, valueSize, namePlace, value, propName of package token do. Conditions: strings of at most 2^40 bytes. -/
import Derived.Test.YtgfdbmbgldeljaaMg31
namespace Go.Proofs.Ytgfdbmbgldeljaa
open Go.RowKit

theorem rd_grown {w w' : World} {g : Nat} {s t : ByteArray} {kd : Int} {nm vl : ByteArray} {sz pl : Int} (h : Rdr w g s t kd nm vl sz pl) (hb : Below w.heap.size w w') : Rdr w' g s t kd nm vl sz pl := Arr.below h hb (Arr.lt h)

/-- The error of a number that is to be read. -/
def numE (l : List UInt8) : Nat := if l.length < 4 then 14 else 0

set_option maxHeartbeats 800000 in
set_option maxRecDepth 100000 in
theorem valueSize_any (g : Nat) (s t : ByteArray) (kd : Int) (nm vl : ByteArray) (sz pl : Int) (a : Nat) (w : World) (hA : Rdr w g s t kd nm vl sz pl) (ha : a ≤ s.size) (hm : s.size ≤ 1099511627776) :
    Calls Try.prog 74 #[.pointer (some ⟨g, 0, none⟩), .int .i64 (a : Int)] w fun e w' => (s.size < a + 4 → e = .returned (.tuple #[.int .i64 0, .int .i64 14]) ∧ w = w') ∧
      (a + 4 ≤ s.size → e = .returned (.tuple #[.int .i64 ((a + 4 : Nat) : Int), .int .i64 0]) ∧ Rdr w' g s t kd nm vl (frombig (s.data.toList.drop a)) pl ∧ w.grownBy w' (some g)) := by
  by_cases h : s.size < a + 4
  · have HN := Lib.hid (number_no g _ s a (some ⟨g, 5, none⟩) w hA rfl ha h)
    clear hA
    go_enter Try.func74, Try.ntmps74
    go_wp2_with fail
    refine HN.out.mono ?_
    rintro e w1 ⟨rfl, rfl⟩
    go_wp2
    go_ret2
    exact ⟨fun _ => ⟨rfl, rfl⟩, fun h2 => absurd h2 (by omega)⟩
  · have HN := Lib.hid (number_yes g _ s a 5 _ w hA rfl rfl hm (by omega))
    generalize frombig (s.data.toList.drop a) = n at *
    clear hA
    go_enter Try.func74, Try.ntmps74
    go_wp2_with fail
    refine HN.out.mono ?_
    rintro e w1 ⟨rfl, h1, h2⟩
    have H1 := Lib.hid h1
    have H2 := Lib.hid h2
    clear h1 h2 HN
    go_wp2
    go_ret2
    exact ⟨fun h2 => absurd h2 (by omega), fun _ => ⟨by simp, H1.out, H2.out⟩⟩
set_option maxHeartbeats 800000 in
set_option maxRecDepth 100000 in
theorem namePlace_any (g : Nat) (s t : ByteArray) (kd : Int) (nm vl : ByteArray) (sz pl : Int) (a : Nat) (w : World) (hA : Rdr w g s t kd nm vl sz pl) (ha : a ≤ s.size) (hm : s.size ≤ 1099511627776) :
    Calls Try.prog 75 #[.pointer (some ⟨g, 0, none⟩), .int .i64 (a : Int)] w fun e w' => (s.size < a + 4 → e = .returned (.tuple #[.int .i64 0, .int .i64 14]) ∧ w = w') ∧
      (a + 4 ≤ s.size → e = .returned (.tuple #[.int .i64 ((a + 4 : Nat) : Int), .int .i64 0]) ∧ Rdr w' g s t kd nm vl sz (frombig (s.data.toList.drop a)) ∧ w.grownBy w' (some g)) := by
  by_cases h : s.size < a + 4
  · have HN := Lib.hid (number_no g _ s a (some ⟨g, 6, none⟩) w hA rfl ha h)
    clear hA
    go_enter Try.func75, Try.ntmps75
    go_wp2_with fail
    refine HN.out.mono ?_
    rintro e w1 ⟨rfl, rfl⟩
    go_wp2
    go_ret2
    exact ⟨fun _ => ⟨rfl, rfl⟩, fun h2 => absurd h2 (by omega)⟩
  · have HN := Lib.hid (number_yes g _ s a 6 _ w hA rfl rfl hm (by omega))
    generalize frombig (s.data.toList.drop a) = n at *
    clear hA
    go_enter Try.func75, Try.ntmps75
    go_wp2_with fail
    refine HN.out.mono ?_
    rintro e w1 ⟨rfl, h1, h2⟩
    have H1 := Lib.hid h1
    have H2 := Lib.hid h2
    clear h1 h2 HN
    go_wp2
    go_ret2
    exact ⟨fun h2 => absurd h2 (by omega), fun _ => ⟨by simp, H1.out, H2.out⟩⟩

set_option maxHeartbeats 1600000 in
set_option maxRecDepth 100000 in
theorem value_any (g : Nat) (s t : ByteArray) (kd : Int) (nm vl : ByteArray) (n : Nat) (pl : Int) (a : Nat) (w : World) (hA : Rdr w g s t kd nm vl (n : Int) pl) (ha : a ≤ s.size) (hm : s.size ≤ 1099511627776) (hn : n ≤ 2199023255552) (er : Nat) (her : padE (s.data.toList.drop a) n = er) :
    Calls Try.prog 76 #[.pointer (some ⟨g, 0, none⟩), .int .i64 (a : Int)] w fun e w' => ∃ (nx : Int) (vl' : ByteArray), e = .returned (.tuple #[.int .i64 nx, .int .i64 (er : Int)]) ∧ Rdr w' g s t kd nm vl' (n : Int) pl ∧ w.grownBy w' (some g) ∧ (er = 0 → vl' = s.extract a (a + n) ∧ nx = ((a + up4 n : Nat) : Int)) := by
  have HP := Lib.hid (rdpad_any g _ s a n w hA rfl ha hm hn er her)
  have k5 : w.cell? ⟨g, 5, none⟩ = some (.int .i64 (n : Int)) := hA.cell 5
  have HA := Lib.hid hA
  have hup := up4_ge n
  by_cases h : er = 0
  · subst h
    rw [if_pos rfl] at HP
    have hu := (padE_ok.1 her).1
    rw [List.length_drop, show s.data.toList.length = s.size from rfl] at hu
    have c0 : (0 : Int) ≤ a := by omega
    have c1 : (a : Int) ≤ (a : Int) + (n : Int) := by omega
    have c2 : (a : Int) + (n : Int) ≤ s.size := by omega
    have hub : a + up4 n ≤ s.size := by omega
    generalize up4 n = u at *
    clear hA her
    go_enter Try.func76, Try.ntmps76
    go_wp2_with fail
    refine HP.out.mono ?_
    rintro e w1 ⟨rfl, hb1⟩
    have HA1 := Lib.hid (HA.out.below hb1 HA.out.lt)
    have HG1 := Lib.hid (gr_below (r := some g) hb1)
    have k0 : w1.cell? ⟨g, 0, none⟩ = some (.string s) := HA1.out.cell 0
    have k4 : w1.cell? ⟨g, 4, none⟩ = some (.string vl) := HA1.out.cell 4
    have k5' : w1.cell? ⟨g, 5, none⟩ = some (.int .i64 (n : Int)) := HA1.out.cell 5
    have f4 := HA1.out.frozen 4
    have HA2 : Hid (Arr (w1.setCell ⟨g, 4, none⟩ (.string (s.extract a (a + n)))).drew g 121 #[.string s, .string t, .int .i64 kd, .string nm, .string (s.extract a (a + n)), .int .i64 (n : Int), .int .i64 pl]) := HA1.out.put 4 _
    have HG2 : Hid (w.grownBy (w1.setCell ⟨g, 4, none⟩ (.string (s.extract a (a + n)))).drew (some g)) := World.grownBy.trans HG1.out (World.grownBy.trans (gr_cell w1 g 4 _) (gr_below (below_drewN _ 1)))
    clear hb1 HA HP k5 HA1 HG1
    go_wp2
    go_region
    go_wp2
    go_ret2
    exact ⟨_, _, rfl, HA2.out, HG2.out, fun _ => ⟨rfl, by simp⟩⟩
  · rw [if_neg h] at HP
    have d0 : ((er : Int) != 0) = true := by simp; omega
    clear hA her hup
    go_enter Try.func76, Try.ntmps76
    go_wp2_with fail
    refine HP.out.mono ?_
    rintro e w1 ⟨rfl, hb1⟩
    have HA1 := Lib.hid (HA.out.below hb1 HA.out.lt)
    have HG1 := Lib.hid (gr_below (r := some g) hb1)
    clear hb1 HA HP
    go_wp2
    go_ret2
    exact ⟨_, vl, rfl, HA1.out, HG1.out, fun h2 => absurd h2 h⟩

set_option maxHeartbeats 1600000 in
set_option maxRecDepth 100000 in
theorem propName_any (g : Nat) (s t : ByteArray) (kd : Int) (nm vl : ByteArray) (sz pl : Int) (a : Int) (w : World) (hA : Rdr w g s t kd nm vl sz pl) (ht : t.size ≤ maxLen) (h1 : pl < 9223372036854775808) (h2 : -9223372036854775808 ≤ pl)
    (x : ByteArray) (er : Nat) (hx : getR t.data.toList pl = (x, er)) :
    Calls Try.prog 77 #[.pointer (some ⟨g, 0, none⟩), .int .i64 a] w fun e w' => (((decide (er = 0) && mayB x) = false → e = .returned (.tuple #[.int .i64 0, .int .i64 6]) ∧ Rdr w' g s t kd nm vl sz pl) ∧
      ((decide (er = 0) && mayB x) = true → e = .returned (.tuple #[.int .i64 a, .int .i64 0]) ∧ Rdr w' g s t kd x vl sz pl)) ∧ w.grownBy w' (some g) := by
  have hxs : x.size ≤ maxLen := by
    have := getR_size t.data.toList pl
    rw [hx] at this
    exact Nat.le_trans this ht
  have HGT := Lib.hid (fun (W : World) (m : Nat) => (sget_any t pl (W.drewN m) ht h1 h2).mono fun e w' (h : e = .returned (.tuple #[.string (getR t.data.toList pl).1, .int .i64 ((getR t.data.toList pl).2 : Int)]) ∧ ∃ n, w' = (W.drewN m).drewN n) => (⟨h.1, by obtain ⟨n, hn⟩ := h.2; exact ⟨m + n, by rw [hn, World.drewN_drewN]⟩⟩ : e = .returned (.tuple #[.string (getR t.data.toList pl).1, .int .i64 ((getR t.data.toList pl).2 : Int)]) ∧ ∃ m, w' = W.drewN m))
  rw [hx] at HGT
  simp only at HGT
  have HND := Lib.hid (fun W => named_any x W hxs)
  have k1 : ∀ m, (w.drewN m).cell? ⟨g, 1, none⟩ = some (.string t) := fun m => by
    have : Arr (w.drewN m) g 121 _ := hA.drewN m
    exact this.cell 1
  have k6 : ∀ m, (w.drewN m).cell? ⟨g, 6, none⟩ = some (.int .i64 pl) := fun m => by
    have : Arr (w.drewN m) g 121 _ := hA.drewN m
    exact this.cell 6
  have k1' := k1 0
  have k6' := k6 0
  have HA : Hid (∀ m, Rdr (w.drewN m) g s t kd nm vl sz pl) := fun m => hA.drewN m
  clear hA hx
  by_cases he : er = 0
  · subst he
    by_cases h0 : x.size = 0
    · have hm : mayB x = false := by cases e : mayB x with
        | false => rfl
        | true => have := (mayB_iff.1 e).1; omega
      obtain rfl : x = ⟨#[]⟩ := by
        have : x.data.toList = [] := List.eq_nil_of_length_eq_zero h0
        exact ByteArray.ext (Array.ext' this)
      rw [hm]
      clear hm h0 hxs HND
      go_enter Try.func77, Try.ntmps77
      go_wp2
      go_quiet ((go_at_call 84; exact HGT.out _ _))
      go_wp2
      go_ret2
      exact ⟨⟨fun _ => ⟨rfl, HA.out _⟩, (fun h => by cases h)⟩, gr_below (below_drewN _ _)⟩
    · have q1 : (x.toList == []) = false := by
        have : x.toList ≠ [] := by rw [ByteArray.toList_eq]; intro e; exact h0 (by show x.data.toList.length = 0; rw [e]; rfl)
        simpa using this
      have q2 : x.toList.isEmpty = false := by
        have : x.toList ≠ [] := by rw [ByteArray.toList_eq]; intro e; exact h0 (by show x.data.toList.length = 0; rw [e]; rfl)
        simpa using this
      have hn : nodeB x = mayB x := by unfold nodeB; rw [decide_eq_false h0]; rfl
      rw [hn] at HND
      cases hm : mayB x with
      | false =>
        rw [hm] at HND
        clear hm hn h0
        go_enter Try.func77, Try.ntmps77
        go_wp2
        go_quiet ((go_at_call 84; exact HGT.out _ _))
        go_wp2_with fail
        refine (HND.out _).mono ?_
        rintro e w2 ⟨rfl, rfl⟩
        go_wp2
        go_ret2
        exact ⟨⟨fun _ => ⟨rfl, HA.out _⟩, (fun h => by cases h)⟩, gr_below (below_drewN _ _)⟩
      | true =>
        rw [hm] at HND
        clear hm hn h0
        go_enter Try.func77, Try.ntmps77
        go_wp2
        go_quiet ((go_at_call 84; exact HGT.out _ _))
        have HA1 := HA.out nq
        have HG1 := Lib.hid (gr_below (r := some g) (below_drewN w nq))
        generalize w.drewN nq = w1 at *
        have k3 : w1.cell? ⟨g, 3, none⟩ = some (.string nm) := HA1.cell 3
        have f3 := Arr.frozen HA1 3
        have HA2 := Lib.hid (Arr.put HA1 3 (.string x))
        have HG2 := Lib.hid (World.grownBy.trans HG1.out (gr_cell w1 g 3 (.string x)))
        clear HA1 HG1
        go_wp2_with fail
        refine (HND.out _).mono ?_
        rintro e w2 ⟨rfl, rfl⟩
        go_wp2
        go_ret2
        exact ⟨⟨(fun h => by cases h), fun _ => ⟨rfl, HA2.out⟩⟩, HG2.out⟩
  · have hd : (decide (er = 0) && mayB x) = false := by rw [decide_eq_false he]; rfl
    rw [hd]
    have d0 : ((er : Int) != 0) = true := by simp; omega
    clear hd he
    go_enter Try.func77, Try.ntmps77
    go_wp2
    go_quiet ((go_at_call 84; exact HGT.out _ _))
    go_wp2
    go_ret2
    exact ⟨⟨fun _ => ⟨rfl, HA.out _⟩, fun h => by cases h⟩, gr_below (below_drewN _ _)⟩
end Go.Proofs.Ytgfdbmbgldeljaa

/- What the reader's step kind does, and advance over any steps that are a reader's own methods. Conditions: strings of at most 2^40 bytes. -/
namespace Go.Proofs.Ytgfdbmbgldeljaa
open Go.RowKit

theorem Rdr.zero {w : World} {g : Nat} {s t : ByteArray} {kd : Int} {nm vl : ByteArray} {sz pl : Int} (h : Rdr w g s t kd nm vl sz pl) : Rdr (w.setCells g 2 (tkC tk0).toList) g s t 0 ByteArray.empty ByteArray.empty sz pl ∧ w.grownBy (w.setCells g 2 (tkC tk0).toList) (some g) :=
  ⟨((Arr.put h 2 (.int .i64 0)).put 3 (.string ByteArray.empty)).put 4 (.string ByteArray.empty), World.grownBy.trans (gr_cell w g 2 _) (World.grownBy.trans (gr_cell _ g 3 _) (gr_cell _ g 4 _))⟩
theorem Rdr.there {w : World} {g : Nat} {s t : ByteArray} {kd : Int} {nm vl : ByteArray} {sz pl : Int} (h : Rdr w g s t kd nm vl sz pl) : w.there g 2 (tkC tk0).size := by
  intro j hj
  have h3 : j < 3 := hj
  refine ⟨?_, Arr.frozen h _⟩
  rw [Arr.cell h]
  match j, h3 with
  | 0, _ => rfl
  | 1, _ => rfl
  | 2, _ => rfl

set_option maxHeartbeats 800000 in
set_option maxRecDepth 100000 in
theorem kind_any (g : Nat) (s t : ByteArray) (kd : Int) (nm vl : ByteArray) (sz pl : Int) (a : Nat) (w : World) (hA : Rdr w g s t kd nm vl sz pl) (ha : a ≤ s.size) (hm : s.size ≤ 1099511627776) :
    Calls Try.prog 58 #[.pointer (some ⟨g, 0, none⟩), .int .i64 (a : Int)] w fun e w' => ((s.size < a + 4 → e = .returned (.tuple #[.int .i64 0, .int .i64 14]) ∧ Rdr w' g s t 0 ByteArray.empty ByteArray.empty sz pl) ∧
      (a + 4 ≤ s.size → e = .returned (.tuple #[.int .i64 ((a + 4 : Nat) : Int), .int .i64 0]) ∧ Rdr w' g s t (frombig (s.data.toList.drop a)) ByteArray.empty ByteArray.empty sz pl)) ∧ w.grownBy w' (some g) := by
  have HT := Lib.hid hA.there
  have HZ := Lib.hid hA.zero
  have HB := Lib.hid (Below.refl w.heap.size w)
  by_cases h : s.size < a + 4
  · have HN := Lib.hid (number_no g _ s a (some ⟨g, 2, none⟩) (w.setCells g 2 (tkC tk0).toList) HZ.out.1 rfl ha h)
    clear hA
    go_enter Try.func58, Try.ntmps58
    go_wp2_with (first
      | (refine wpList_store_mid rfl 84 (.tmp 9) (.tmp 7) rfl g 2 (tkC tk0) rfl rfl HT.out (infoTk _) (tkC_one _) ?_; generalize w.setCells g 2 (tkC tk0).toList = w1 at *)
      | fail)
    refine HN.out.mono ?_
    rintro e w2 ⟨rfl, rfl⟩
    go_wp2
    go_ret2
    exact ⟨⟨fun _ => ⟨rfl, HZ.out.1⟩, fun h2 => absurd h2 (by omega)⟩, HZ.out.2⟩
  · have HN := Lib.hid (number_yes g _ s a 2 _ (w.setCells g 2 (tkC tk0).toList) HZ.out.1 rfl rfl hm (by omega))
    generalize frombig (s.data.toList.drop a) = n at *
    clear hA
    go_enter Try.func58, Try.ntmps58
    go_wp2_with (first
      | (refine wpList_store_mid rfl 84 (.tmp 9) (.tmp 7) rfl g 2 (tkC tk0) rfl rfl HT.out (infoTk _) (tkC_one _) ?_; generalize w.setCells g 2 (tkC tk0).toList = w1 at *)
      | fail)
    refine HN.out.mono ?_
    rintro e w2 ⟨rfl, h1, h2⟩
    have H1 := Lib.hid h1
    have H2 := Lib.hid (World.grownBy.trans HZ.out.2 h2)
    clear h1 h2 HN
    go_wp2
    go_ret2
    exact ⟨⟨fun h2 => absurd h2 (by omega), fun _ => ⟨by simp, H1.out⟩⟩, H2.out⟩

set_option maxHeartbeats 1600000 in
set_option maxRecDepth 100000 in
theorem advance_any (g b : Nat) (fs : List Nat) (cap : Nat) (I : Nat → Int → World → Prop) (Q : Int → Nat → World → Prop) (a0 : Int) (w : World) (hbg : b ≠ g)
    (hb : ∀ k, k < fs.length → w.cell? ⟨b, k, none⟩ = some (.func (.func (fs.getD k 0)) #[.pointer (some ⟨g, 0, none⟩)] #[])) (hbl : b < w.heap.size) (hlen : fs.length ≤ 8)
    (hcf : ∀ k, k < fs.length → ∀ (args : Array Value) (W : World), (callFunc (fs.getD k 0) args).run Try.prog W = .ok (.enter (fs.getD k 0) args) W)
    (h0 : I 0 a0 w)
    (hst : ∀ k, k < fs.length → ∀ a W, I k a W → Calls Try.prog (fs.getD k 0) #[.pointer (some ⟨g, 0, none⟩), .int .i64 a] W fun e W' => ∃ (nx : Int) (er : Nat), e = .returned (.tuple #[.int .i64 nx, .int .i64 (er : Int)]) ∧ W.grownBy W' (some g) ∧ (er = 0 → I (k + 1) nx W') ∧ (er ≠ 0 → Q 0 er W'))
    (hen : ∀ a W, I fs.length a W → Q a 0 W) :
    Calls Try.prog 57 #[.int .i64 a0, .slice (some ⟨b, 0, none⟩) fs.length cap] w fun e w' => ∃ (nx : Int) (er : Nat), e = .returned (.tuple #[.int .i64 nx, .int .i64 (er : Int)]) ∧ w.grownBy w' (some g) ∧ Q nx er w' := by
  have HI0 := Lib.hid h0
  have HST := Lib.hid hst
  have HEN := Lib.hid hen
  have HCF := Lib.hid hcf
  have HCELL : Hid (∀ k, k < fs.length → ∀ W, w.grownBy W (some g) → W.cell? ⟨b, k, none⟩ = some (.func (.func (fs.getD k 0)) #[.pointer (some ⟨g, 0, none⟩)] #[])) := fun k hk W hg => by
    rw [World.cell?_of_block (a := ⟨b, k, none⟩) (hg.block b hbl (fun e => hbg (Option.some.inj e)))]
    exact hb k hk
  clear h0 hst hen hcf hb
  go_enter Try.func57, Try.ntmps57
  go_wp2
  go_loopw [0, 12] (fun av i wr => ∃ (k : Nat) (a : Int), k ≤ fs.length ∧ av = .int .i64 a ∧ i = .int .i64 k ∧ w.grownBy wr (some g) ∧ Hid (I k a wr)) (fun _ i _ => fs.length - (intOf i).toNat)
  case atStart => exact ⟨0, a0, Nat.zero_le _, rfl, rfl, gr_below (Below.refl _ _), HI0⟩
  case round =>
    clear HI0
    obtain ⟨k, a, hk, rfl, rfl, hg, HIK⟩ := hrel
    by_cases hlt : k < fs.length
    · have hki : (k : Int) < fs.length := by omega
      have hc := HCELL.out k hlt wr hg
      have hcf := HCF.out k hlt
      have HC := Lib.hid (HST.out k hlt a wr HIK.out)
      have HG := Lib.hid hg
      clear HCELL HCF HST HEN hg
      generalize fs.getD k 0 = F at *
      go_wp2_with fail
      refine HC.out.mono ?_
      rintro e w1 ⟨nx, er, rfl, hg1, hI, hQ⟩
      have HG1 := Lib.hid (World.grownBy.trans HG.out hg1)
      clear hg1 HC HG hc hcf HIK
      by_cases he : er = 0
      · subst he
        have HI1 := Lib.hid (hI rfl)
        clear hI hQ
        go_wp2
        go_roundw
        case rel => exact ⟨k + 1, nx, by omega, rfl, by go_num, HG1.out, HI1⟩
        case measure => simp [intOf]; omega
      · have HQ1 := Lib.hid (hQ he)
        have d0 : ((er : Int) != 0) = true := by simp; omega
        clear hI hQ
        go_wp2
        go_ret2
        exact ⟨0, er, rfl, HG1.out, HQ1.out⟩
    · obtain rfl : k = fs.length := by omega
      have HQ := Lib.hid (HEN.out a wr HIK.out)
      have HG := Lib.hid hg
      clear HIK HEN HST HCF HCELL hg
      go_wp2
      go_ret2
      exact ⟨a, 0, rfl, HG.out, HQ.out⟩
end Go.Proofs.Ytgfdbmbgldeljaa
