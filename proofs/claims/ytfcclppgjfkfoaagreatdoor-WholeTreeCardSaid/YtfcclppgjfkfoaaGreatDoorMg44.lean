/- What the reader's step kind does, and advance over any steps that are a reader's own methods. Conditions: strings of at most 2^40 bytes. -/
import Derived.Test.YtfcclppgjfkfoaaGreatDoorMg43
import Derived.Test.YtfcclppgjfkfoaaGreatDoorMg40
namespace Go.Proofs.YtfcclppgjfkfoaaGreatDoor
open Go.RowKit

theorem Rdr.zero {w : World} {g : Nat} {s t : ByteArray} {kd : Int} {nm vl : ByteArray} {sz pl : Int} (h : Rdr w g s t kd nm vl sz pl) : Rdr (w.setCells g 2 (tkC tk0).toList) g s t 0 ByteArray.empty ByteArray.empty sz pl ∧ w.grownBy (w.setCells g 2 (tkC tk0).toList) (some g) :=
  ⟨((Arr.put h 2 (.int .i64 0)).put 3 (.string ByteArray.empty)).put 4 (.string ByteArray.empty), World.grownBy.trans (gr_cell w g 2 _) (World.grownBy.trans (gr_cell _ g 3 _) (gr_cell _ g 4 _))⟩
theorem Rdr.there {w : World} {g : Nat} {s t : ByteArray} {kd : Int} {nm vl : ByteArray} {sz pl : Int} (h : Rdr w g s t kd nm vl sz pl) : w.there g 2 (tkC tk0).size := by
  intro j hj
  have h3 : j < 3 := hj
  refine ⟨?_, Arr.frozen h _⟩
  rw [Arr.cell h]
  match j, h3 with
  | 0, _ => rfl
  | 1, _ => rfl
  | 2, _ => rfl

set_option maxHeartbeats 800000 in
set_option maxRecDepth 100000 in
theorem kind_any (g : Nat) (s t : ByteArray) (kd : Int) (nm vl : ByteArray) (sz pl : Int) (a : Nat) (w : World) (hA : Rdr w g s t kd nm vl sz pl) (ha : a ≤ s.size) (hm : s.size ≤ 1099511627776) :
    Calls Tryz.prog 77 #[.pointer (some ⟨g, 0, none⟩), .int .i64 (a : Int)] w fun e w' => ((s.size < a + 4 → e = .returned (.tuple #[.int .i64 0, .int .i64 14]) ∧ Rdr w' g s t 0 ByteArray.empty ByteArray.empty sz pl) ∧
      (a + 4 ≤ s.size → e = .returned (.tuple #[.int .i64 ((a + 4 : Nat) : Int), .int .i64 0]) ∧ Rdr w' g s t (frombig (s.data.toList.drop a)) ByteArray.empty ByteArray.empty sz pl)) ∧ w.grownBy w' (some g) := by
  have HT := Lib.hid hA.there
  have HZ := Lib.hid hA.zero
  have HB := Lib.hid (Below.refl w.heap.size w)
  by_cases h : s.size < a + 4
  · have HN := Lib.hid (number_no g _ s a (some ⟨g, 2, none⟩) (w.setCells g 2 (tkC tk0).toList) HZ.out.1 rfl ha h)
    clear hA
    go_enter Tryz.func77, Tryz.ntmps77
    go_wp2_with (first
      | (refine wpList_store_mid rfl 116 (.tmp 9) (.tmp 7) rfl g 2 (tkC tk0) rfl rfl HT.out (infoTk _) (tkC_one _) ?_; generalize w.setCells g 2 (tkC tk0).toList = w1 at *)
      | fail)
    refine HN.out.mono ?_
    rintro e w2 ⟨rfl, rfl⟩
    go_wp2
    go_ret2
    exact ⟨⟨fun _ => ⟨rfl, HZ.out.1⟩, fun h2 => absurd h2 (by omega)⟩, HZ.out.2⟩
  · have HN := Lib.hid (number_yes g _ s a 2 _ (w.setCells g 2 (tkC tk0).toList) HZ.out.1 rfl rfl hm (by omega))
    generalize frombig (s.data.toList.drop a) = n at *
    clear hA
    go_enter Tryz.func77, Tryz.ntmps77
    go_wp2_with (first
      | (refine wpList_store_mid rfl 116 (.tmp 9) (.tmp 7) rfl g 2 (tkC tk0) rfl rfl HT.out (infoTk _) (tkC_one _) ?_; generalize w.setCells g 2 (tkC tk0).toList = w1 at *)
      | fail)
    refine HN.out.mono ?_
    rintro e w2 ⟨rfl, h1, h2⟩
    have H1 := Lib.hid h1
    have H2 := Lib.hid (World.grownBy.trans HZ.out.2 h2)
    clear h1 h2 HN
    go_wp2
    go_ret2
    exact ⟨⟨fun h2 => absurd h2 (by omega), fun _ => ⟨by simp, H1.out⟩⟩, H2.out⟩

set_option maxHeartbeats 1600000 in
set_option maxRecDepth 100000 in
theorem advance_any (g b : Nat) (fs : List Nat) (cap : Nat) (I : Nat → Int → World → Prop) (Q : Int → Nat → World → Prop) (a0 : Int) (w : World) (hbg : b ≠ g)
    (hb : ∀ k, k < fs.length → w.cell? ⟨b, k, none⟩ = some (.func (.func (fs.getD k 0)) #[.pointer (some ⟨g, 0, none⟩)] #[])) (hbl : b < w.heap.size) (hlen : fs.length ≤ 8)
    (hcf : ∀ k, k < fs.length → ∀ (args : Array Value) (W : World), (callFunc (fs.getD k 0) args).run Tryz.prog W = .ok (.enter (fs.getD k 0) args) W)
    (h0 : I 0 a0 w)
    (hst : ∀ k, k < fs.length → ∀ a W, I k a W → Calls Tryz.prog (fs.getD k 0) #[.pointer (some ⟨g, 0, none⟩), .int .i64 a] W fun e W' => ∃ (nx : Int) (er : Nat), e = .returned (.tuple #[.int .i64 nx, .int .i64 (er : Int)]) ∧ W.grownBy W' (some g) ∧ (er = 0 → I (k + 1) nx W') ∧ (er ≠ 0 → Q 0 er W'))
    (hen : ∀ a W, I fs.length a W → Q a 0 W) :
    Calls Tryz.prog 76 #[.int .i64 a0, .slice (some ⟨b, 0, none⟩) fs.length cap] w fun e w' => ∃ (nx : Int) (er : Nat), e = .returned (.tuple #[.int .i64 nx, .int .i64 (er : Int)]) ∧ w.grownBy w' (some g) ∧ Q nx er w' := by
  have HI0 := Lib.hid h0
  have HST := Lib.hid hst
  have HEN := Lib.hid hen
  have HCF := Lib.hid hcf
  have HCELL : Hid (∀ k, k < fs.length → ∀ W, w.grownBy W (some g) → W.cell? ⟨b, k, none⟩ = some (.func (.func (fs.getD k 0)) #[.pointer (some ⟨g, 0, none⟩)] #[])) := fun k hk W hg => by
    rw [World.cell?_of_block (a := ⟨b, k, none⟩) (hg.block b hbl (fun e => hbg (Option.some.inj e)))]
    exact hb k hk
  clear h0 hst hen hcf hb
  go_enter Tryz.func76, Tryz.ntmps76
  go_wp2
  go_loopw [0, 12] (fun av i wr => ∃ (k : Nat) (a : Int), k ≤ fs.length ∧ av = .int .i64 a ∧ i = .int .i64 k ∧ w.grownBy wr (some g) ∧ Hid (I k a wr)) (fun _ i _ => fs.length - (intOf i).toNat)
  case atStart => exact ⟨0, a0, Nat.zero_le _, rfl, rfl, gr_below (Below.refl _ _), HI0⟩
  case round =>
    clear HI0
    obtain ⟨k, a, hk, rfl, rfl, hg, HIK⟩ := hrel
    by_cases hlt : k < fs.length
    · have hki : (k : Int) < fs.length := by omega
      have hc := HCELL.out k hlt wr hg
      have hcf := HCF.out k hlt
      have HC := Lib.hid (HST.out k hlt a wr HIK.out)
      have HG := Lib.hid hg
      clear HCELL HCF HST HEN hg
      generalize fs.getD k 0 = F at *
      go_wp2_with fail
      refine HC.out.mono ?_
      rintro e w1 ⟨nx, er, rfl, hg1, hI, hQ⟩
      have HG1 := Lib.hid (World.grownBy.trans HG.out hg1)
      clear hg1 HC HG hc hcf HIK
      by_cases he : er = 0
      · subst he
        have HI1 := Lib.hid (hI rfl)
        clear hI hQ
        go_wp2
        go_roundw
        case rel => exact ⟨k + 1, nx, by omega, rfl, by go_num, HG1.out, HI1⟩
        case measure => simp [intOf]; omega
      · have HQ1 := Lib.hid (hQ he)
        have d0 : ((er : Int) != 0) = true := by simp; omega
        clear hI hQ
        go_wp2
        go_ret2
        exact ⟨0, er, rfl, HG1.out, HQ1.out⟩
    · obtain rfl : k = fs.length := by omega
      have HQ := Lib.hid (HEN.out a wr HIK.out)
      have HG := Lib.hid hg
      clear HIK HEN HST HCF HCELL hg
      go_wp2
      go_ret2
      exact ⟨a, 0, rfl, HG.out, HQ.out⟩
end Go.Proofs.YtfcclppgjfkfoaaGreatDoor

/- What the reader's step rest does: a token behind its kind. Conditions: strings of at most 2^40 bytes. -/
namespace Go.Proofs.YtfcclppgjfkfoaaGreatDoor
open Go.RowKit

theorem ent_nodeName (args : Array Value) (w : World) : (callFunc 101 args).run Tryz.prog w = .ok (.enter 101 args) w := enters_of Tryz.func101 (by kernel_rfl) rfl args w
theorem ent_valueSize (args : Array Value) (w : World) : (callFunc 102 args).run Tryz.prog w = .ok (.enter 102 args) w := enters_of Tryz.func102 (by kernel_rfl) rfl args w
theorem ent_namePlace (args : Array Value) (w : World) : (callFunc 103 args).run Tryz.prog w = .ok (.enter 103 args) w := enters_of Tryz.func103 (by kernel_rfl) rfl args w
theorem ent_value (args : Array Value) (w : World) : (callFunc 104 args).run Tryz.prog w = .ok (.enter 104 args) w := enters_of Tryz.func104 (by kernel_rfl) rfl args w
theorem ent_propName (args : Array Value) (w : World) : (callFunc 105 args).run Tryz.prog w = .ok (.enter 105 args) w := enters_of Tryz.func105 (by kernel_rfl) rfl args w
theorem ent_kind (args : Array Value) (w : World) : (callFunc 77 args).run Tryz.prog w = .ok (.enter 77 args) w := enters_of Tryz.func77 (by kernel_rfl) rfl args w
theorem ent_rest (args : Array Value) (w : World) : (callFunc 78 args).run Tryz.prog w = .ok (.enter 78 args) w := enters_of Tryz.func78 (by kernel_rfl) rfl args w

/-- How a property is read, step by step. -/
theorem propR_14 {l tx : List UInt8} (h8 : ¬ l.length < 8) (h : padE (l.drop 8) (pSz l) = 14) : propR l tx = (tk0, 0, 14) := propR_short (.inr (by have := padE_short.1 h; rw [List.length_drop] at this; omega))
theorem zeros_prop (l : List UInt8) (n u : Nat) : (l.take (8 + u)).drop (8 + n) = ((l.drop 8).take u).drop n := by
  rw [List.take_drop, List.drop_drop]
theorem propR_6 {l tx : List UInt8} (h8 : ¬ l.length < 8) (h : padE (l.drop 8) (pSz l) = 6) : propR l tx = (tk0, 0, 6) := by
  have h14 : ¬ (l.drop 8).length < up4 (pSz l) := fun hh => by rw [padE_short.2 hh] at h; cases h
  have hz : zerosB (((l.drop 8).take (up4 (pSz l))).drop (pSz l)) = false := by
    cases e : zerosB (((l.drop 8).take (up4 (pSz l))).drop (pSz l)) with
    | false => rfl
    | true => rw [padE_ok.2 ⟨by omega, e⟩] at h; cases h
  rw [List.length_drop] at h14
  rw [propR_long (by omega), zeros_prop, hz, Bool.and_false]
  exact if_neg (by decide)
theorem propR_0 {l tx : List UInt8} (h8 : ¬ l.length < 8) (h : padE (l.drop 8) (pSz l) = 0) : propR l tx =
    if (decide ((getR tx (frombig (l.drop 4))).2 = 0) && mayB (getR tx (frombig (l.drop 4))).1) = true then
    (⟨3, (getR tx (frombig (l.drop 4))).1, ⟨((l.take (8 + pSz l)).drop 8).toArray⟩⟩, 8 + up4 (pSz l), 0) else (tk0, 0, 6) := by
  obtain ⟨h1, h2⟩ := padE_ok.1 h
  rw [List.length_drop] at h1
  rw [propR_long (by omega), zeros_prop, h2, Bool.and_true]

/-- What is known between the steps of a property. -/
def IP (g : Nat) (s t : ByteArray) (a : Nat) : Nat → Int → World → Prop
  | 0, x, W => x = (a : Int) ∧ ∃ sz pl, Rdr W g s t 3 ByteArray.empty ByteArray.empty sz pl
  | 1, x, W => x = ((a + 4 : Nat) : Int) ∧ a + 4 ≤ s.size ∧ ∃ pl, Rdr W g s t 3 ByteArray.empty ByteArray.empty (frombig (s.data.toList.drop a)) pl
  | 2, x, W => x = ((a + 8 : Nat) : Int) ∧ a + 8 ≤ s.size ∧ Rdr W g s t 3 ByteArray.empty ByteArray.empty (frombig (s.data.toList.drop a)) (frombig (s.data.toList.drop (a + 4)))
  | 3, x, W => a + 8 ≤ s.size ∧ padE (s.data.toList.drop (a + 8)) (pSz (s.data.toList.drop a)) = 0 ∧ x = ((a + 8 + up4 (pSz (s.data.toList.drop a)) : Nat) : Int) ∧ Rdr W g s t 3 ByteArray.empty (s.extract (a + 8) (a + 8 + pSz (s.data.toList.drop a))) (frombig (s.data.toList.drop a)) (frombig (s.data.toList.drop (a + 4)))
  | _, x, W => ∃ (tk : TK) (n : Nat), propR (s.data.toList.drop a) t.data.toList = (tk, n, 0) ∧ x = ((a + n : Nat) : Int) ∧ ∃ sz pl, Rdr W g s t tk.kd tk.nm tk.vl sz pl
/-- What is known behind them. -/
def QP (g : Nat) (s t : ByteArray) (a : Nat) (x : Int) (er : Nat) (W : World) : Prop :=
  ∃ (tk : TK) (n : Nat), propR (s.data.toList.drop a) t.data.toList = (tk, n, er) ∧ (er = 0 → x = ((a + n : Nat) : Int)) ∧ ∃ (tk' : TK) (sz pl : Int), Rdr W g s t tk'.kd tk'.nm tk'.vl sz pl ∧ (er = 0 → tk' = tk)
def propSteps : List Nat := [102, 103, 104, 105]

theorem prop_steps (g : Nat) (s t : ByteArray) (a : Nat) (ha : a ≤ s.size) (hm : s.size ≤ 1099511627776) (ht : t.size ≤ maxLen) : ∀ k, k < 4 → ∀ x W, IP g s t a k x W →
    Calls Tryz.prog (propSteps.getD k 0) #[.pointer (some ⟨g, 0, none⟩), .int .i64 x] W fun e W' => ∃ (nx : Int) (er : Nat), e = .returned (.tuple #[.int .i64 nx, .int .i64 (er : Int)]) ∧ W.grownBy W' (some g) ∧ (er = 0 → IP g s t a (k + 1) nx W') ∧ (er ≠ 0 → QP g s t a 0 er W') := by
  intro k hk x W hI
  have hlen : (s.data.toList.drop a).length = s.size - a := by rw [List.length_drop]; rfl
  match k, hk with
  | 0, _ =>
    obtain ⟨rfl, sz, pl, hR⟩ := hI
    refine (valueSize_any g s t 3 _ _ sz pl a W hR ha hm).mono ?_
    rintro e W' ⟨h1, h2⟩
    by_cases h : s.size < a + 4
    · obtain ⟨rfl, rfl⟩ := h1 h
      refine ⟨0, 14, rfl, gr_below (Below.refl _ _), (fun h => by cases h), fun _ => ⟨tk0, 0, propR_short (.inl (by omega)), (fun h => by cases h), ⟨3, _, _⟩, sz, pl, hR, fun h => by cases h⟩⟩
    · obtain ⟨rfl, h3, h4⟩ := h2 (by omega)
      exact ⟨_, 0, rfl, h4, fun _ => ⟨rfl, by omega, pl, h3⟩, fun h => absurd rfl h⟩
  | 1, _ =>
    obtain ⟨rfl, hz, pl, hR⟩ := hI
    refine (namePlace_any g s t 3 _ _ _ pl (a + 4) W hR hz hm).mono ?_
    rintro e W' ⟨h1, h2⟩
    by_cases h : s.size < a + 4 + 4
    · obtain ⟨rfl, rfl⟩ := h1 h
      refine ⟨0, 14, rfl, gr_below (Below.refl _ _), (fun h => by cases h), fun _ => ⟨tk0, 0, propR_short (.inl (by omega)), (fun h => by cases h), ⟨3, _, _⟩, _, pl, hR, fun h => by cases h⟩⟩
    · obtain ⟨rfl, h3, h4⟩ := h2 (by omega)
      exact ⟨_, 0, rfl, h4, fun _ => ⟨rfl, by omega, h3⟩, fun h => absurd rfl h⟩
  | 2, _ =>
    obtain ⟨rfl, hz, hR⟩ := hI
    have hfb := frombig_bd (s.data.toList.drop a)
    have he : frombig (s.data.toList.drop a) = ((pSz (s.data.toList.drop a) : Nat) : Int) := by unfold pSz; omega
    have hdd : (s.data.toList.drop a).drop 8 = s.data.toList.drop (a + 8) := by rw [List.drop_drop]
    have h8 : ¬ (s.data.toList.drop a).length < 8 := by omega
    rw [he] at hR
    refine (value_any g s t 3 _ _ (pSz (s.data.toList.drop a)) _ (a + 8) W hR hz hm (by omega) _ rfl).mono ?_
    rintro e W' ⟨nx, vl', rfl, h3, h4, h5⟩
    refine ⟨nx, _, rfl, h4, fun h0 => ?_, fun h0 => ?_⟩
    · obtain ⟨rfl, rfl⟩ := h5 h0
      refine ⟨hz, h0, rfl, ?_⟩
      rw [he]; exact h3
    · refine ⟨tk0, 0, ?_, (fun h => absurd h h0), ⟨3, _, _⟩, _, _, h3, fun h => absurd h h0⟩
      rcases padE_cases (s.data.toList.drop (a + 8)) (pSz (s.data.toList.drop a)) with h | h | h
      · rw [h]; exact propR_14 h8 (by rw [hdd]; exact h)
      · rw [h]; exact propR_6 h8 (by rw [hdd]; exact h)
      · exact absurd h h0
  | 3, _ =>
    obtain ⟨hz, hp, rfl, hR⟩ := hI
    have hfb := frombig_bd (s.data.toList.drop (a + 4))
    have hdd : (s.data.toList.drop a).drop 8 = s.data.toList.drop (a + 8) := by rw [List.drop_drop]
    have hd4 : (s.data.toList.drop a).drop 4 = s.data.toList.drop (a + 4) := by rw [List.drop_drop]
    have h8 : ¬ (s.data.toList.drop a).length < 8 := by omega
    have hpr := propR_0 (tx := t.data.toList) h8 (by rw [hdd]; exact hp)
    rw [hd4] at hpr
    rcases hgt : getR t.data.toList (frombig (s.data.toList.drop (a + 4))) with ⟨x, ge⟩
    rw [hgt] at hpr
    simp only at hpr
    have e1 : (⟨(((s.data.toList.drop a).take (8 + pSz (s.data.toList.drop a))).drop 8).toArray⟩ : ByteArray) = s.extract (a + 8) (a + 8 + pSz (s.data.toList.drop a)) := by
      rw [cut_mid, List.take_drop, List.drop_drop, Nat.add_assoc]
    rw [e1] at hpr
    have e2 : ((a + 8 + up4 (pSz (s.data.toList.drop a)) : Nat) : Int) = ((a + (8 + up4 (pSz (s.data.toList.drop a))) : Nat) : Int) := by rw [Nat.add_assoc]
    refine (propName_any g s t 3 _ _ (frombig (s.data.toList.drop a)) (frombig (s.data.toList.drop (a + 4))) _ W hR ht (by omega) (by omega) x ge hgt).mono ?_
    rintro e W' ⟨⟨h1, h2⟩, h3⟩
    cases h : (decide (ge = 0) && mayB x) with
    | true =>
      obtain ⟨rfl, h4⟩ := h2 h
      rw [h, if_pos rfl] at hpr
      exact ⟨_, 0, rfl, h3, fun _ => ⟨_, _, hpr, e2, frombig (s.data.toList.drop a), frombig (s.data.toList.drop (a + 4)), h4⟩, fun h => absurd rfl h⟩
    | false =>
      obtain ⟨rfl, h4⟩ := h1 h
      rw [h, if_neg (by decide)] at hpr
      exact ⟨_, 6, rfl, h3, (fun h => by cases h), fun _ => ⟨_, _, hpr, (fun h => by cases h), ⟨3, _, _⟩, _, _, h4, fun h => by cases h⟩⟩

/-- What rest finds, by the token's kind. -/
def RestIs (g : Nat) (s t : ByteArray) (a : Nat) (kd : Int) (x : Int) (er : Nat) (W : World) : Prop :=
  ∃ (tk : TK) (sz pl : Int), Rdr W g s t tk.kd tk.nm tk.vl sz pl ∧
    ((kd = 1 ∧ ∃ bn n, beginR (s.data.toList.drop a) = (bn, n, er) ∧ (er = 0 → x = ((a + n : Nat) : Int) ∧ tk = ⟨1, bn, ByteArray.empty⟩)) ∨
     (kd = 3 ∧ ∃ tk' n, propR (s.data.toList.drop a) t.data.toList = (tk', n, er) ∧ (er = 0 → x = ((a + n : Nat) : Int) ∧ tk = tk')) ∨
     ((kd = 2 ∨ kd = 4 ∨ kd = 9) ∧ er = 0 ∧ x = (a : Int) ∧ tk = ⟨kd, ByteArray.empty, ByteArray.empty⟩) ∨
     (¬ (kd = 1 ∨ kd = 3 ∨ kd = 2 ∨ kd = 4 ∨ kd = 9) ∧ er = 6))

set_option maxHeartbeats 1600000 in
set_option maxRecDepth 100000 in
theorem rest_any (g : Nat) (s t : ByteArray) (kd : Int) (sz pl : Int) (a : Nat) (w : World) (hA : Rdr w g s t kd ByteArray.empty ByteArray.empty sz pl) (ha : a ≤ s.size) (hm : s.size ≤ 1099511627776) (ht : t.size ≤ maxLen) :
    Calls Tryz.prog 78 #[.pointer (some ⟨g, 0, none⟩), .int .i64 (a : Int)] w fun e w' => ∃ (nx : Int) (er : Nat), e = .returned (.tuple #[.int .i64 nx, .int .i64 (er : Int)]) ∧ w.grownBy w' (some g) ∧ RestIs g s t a kd nx er w' := by
  have k2 : w.cell? ⟨g, 2, none⟩ = some (.int .i64 kd) := Arr.cell hA 2
  have hgl := Arr.lt hA
  by_cases h1 : kd = 1
  · subst h1
    have HAD : Hid (Calls Tryz.prog 76 #[.int .i64 (a : Int), .slice (some ⟨w.heap.size, 0, none⟩) 1 1] (w.alloc (.cells #[.func (.func 101) #[.pointer (some ⟨g, 0, none⟩)] #[]] 162)) fun e w' => ∃ (nx : Int) (er : Nat), e = .returned (.tuple #[.int .i64 nx, .int .i64 (er : Int)]) ∧ (w.alloc (.cells #[.func (.func 101) #[.pointer (some ⟨g, 0, none⟩)] #[]] 162)).grownBy w' (some g) ∧ RestIs g s t a 1 nx er w') := by
      refine advance_any g w.heap.size [101] 1 (fun k x W => if k = 0 then x = (a : Int) ∧ Rdr W g s t 1 ByteArray.empty ByteArray.empty sz pl else RestIs g s t a 1 x 0 W) (RestIs g s t a 1) _ _ (by omega) ?_ ?_ (by decide) ?_ ⟨rfl, Arr.alloc hA _⟩ ?_ (fun x W h => h)
      · intro k hk
        obtain rfl : k = 0 := by simp at hk; omega
        exact (Arr.new w _ _).cell 0
      · rw [sz_alloc]; omega
      · intro k hk
        obtain rfl : k = 0 := by simp at hk; omega
        exact ent_nodeName
      · intro k hk x W hI
        obtain rfl : k = 0 := by simp at hk; omega
        obtain ⟨rfl, hR⟩ := hI
        rcases hb : beginR (s.data.toList.drop a) with ⟨bn, n, er⟩
        refine (nodeName_any g s t 1 _ _ sz pl a W hR ha hm bn n er hb).mono ?_
        rintro e W' ⟨nx, nm', rfl, h3, h4, h5⟩
        have hr : RestIs g s t a 1 nx er W' := ⟨⟨1, nm', ByteArray.empty⟩, sz, pl, h3, .inl ⟨rfl, bn, n, hb, fun h0 => ⟨(h5 h0).2, by rw [(h5 h0).1]⟩⟩⟩
        refine ⟨nx, er, rfl, h4, fun h0 => ?_, fun h0 => ?_⟩
        · subst h0; exact hr
        · obtain ⟨tk, sz', pl', q1, q2⟩ := hr
          refine ⟨tk, sz', pl', q1, ?_⟩
          rcases q2 with ⟨q3, bn', n', q4, _⟩ | ⟨q3, _⟩ | ⟨q3, _⟩ | ⟨q3, _⟩
          · exact .inl ⟨rfl, bn', n', q4, fun h => absurd h h0⟩
          · omega
          · omega
          · exact absurd (.inl rfl) q3
    have HB : Hid (Below w.heap.size w (w.alloc (.cells #[.func (.func 101) #[.pointer (some ⟨g, 0, none⟩)] #[]] 162))) := (Below.refl _ _).alloc (Nat.le_refl _) _
    clear hA
    go_enter Tryz.func78, Tryz.ntmps78
    go_wp2_with fail
    refine HAD.out.mono ?_
    rintro e w1 ⟨nx, er, rfl, hg1, hr1⟩
    have HG1 := Lib.hid (World.grownBy.trans (gr_below (r := some g) HB.out) hg1)
    have HR1 := Lib.hid hr1
    clear hg1 hr1 HAD HB
    go_wp2
    go_ret2
    exact ⟨nx, er, rfl, HG1.out, HR1.out⟩
  · have d1 : (kd == 1) = false := by simpa using h1
    by_cases h3 : kd = 3
    · subst h3
      have HAD : Hid (Calls Tryz.prog 76 #[.int .i64 (a : Int), .slice (some ⟨w.heap.size, 0, none⟩) 4 4] (w.alloc (.cells #[.func (.func 102) #[.pointer (some ⟨g, 0, none⟩)] #[], .func (.func 103) #[.pointer (some ⟨g, 0, none⟩)] #[], .func (.func 104) #[.pointer (some ⟨g, 0, none⟩)] #[], .func (.func 105) #[.pointer (some ⟨g, 0, none⟩)] #[]] 162)) fun e w' => ∃ (nx : Int) (er : Nat), e = .returned (.tuple #[.int .i64 nx, .int .i64 (er : Int)]) ∧ (w.alloc (.cells #[.func (.func 102) #[.pointer (some ⟨g, 0, none⟩)] #[], .func (.func 103) #[.pointer (some ⟨g, 0, none⟩)] #[], .func (.func 104) #[.pointer (some ⟨g, 0, none⟩)] #[], .func (.func 105) #[.pointer (some ⟨g, 0, none⟩)] #[]] 162)).grownBy w' (some g) ∧ RestIs g s t a 3 nx er w') := by
        have h := advance_any g w.heap.size propSteps 4 (IP g s t a) (QP g s t a) (a : Int) (w.alloc (.cells #[.func (.func 102) #[.pointer (some ⟨g, 0, none⟩)] #[], .func (.func 103) #[.pointer (some ⟨g, 0, none⟩)] #[], .func (.func 104) #[.pointer (some ⟨g, 0, none⟩)] #[], .func (.func 105) #[.pointer (some ⟨g, 0, none⟩)] #[]] 162)) (by omega) ?_ ?_ (by decide) ?_ ⟨rfl, _, _, Arr.alloc hA _⟩ (prop_steps g s t a ha hm ht) ?_
        · refine h.mono ?_
          rintro e w' ⟨nx, er, rfl, q1, tk, n, q2, q3, tk', sz', pl', q4, q5⟩
          exact ⟨nx, er, rfl, q1, tk', sz', pl', q4, .inr (.inl ⟨rfl, tk, n, q2, fun h0 => ⟨q3 h0, q5 h0⟩⟩)⟩
        · intro k hk
          have hk4 : k < 4 := hk
          have hA := Arr.new w 162 #[.func (.func 102) #[.pointer (some ⟨g, 0, none⟩)] #[], .func (.func 103) #[.pointer (some ⟨g, 0, none⟩)] #[], .func (.func 104) #[.pointer (some ⟨g, 0, none⟩)] #[], .func (.func 105) #[.pointer (some ⟨g, 0, none⟩)] #[]]
          match k, hk4 with
          | 0, _ => exact hA.cell 0
          | 1, _ => exact hA.cell 1
          | 2, _ => exact hA.cell 2
          | 3, _ => exact hA.cell 3
        · rw [sz_alloc]; omega
        · intro k hk
          have hk4 : k < 4 := hk
          match k, hk4 with
          | 0, _ => exact ent_valueSize
          | 1, _ => exact ent_namePlace
          | 2, _ => exact ent_value
          | 3, _ => exact ent_propName
        · rintro x W ⟨tk, n, q1, q2, sz', pl', q3⟩
          exact ⟨tk, n, q1, fun _ => q2, tk, sz', pl', q3, fun _ => rfl⟩
      have HB : Hid (Below w.heap.size w (w.alloc (.cells #[.func (.func 102) #[.pointer (some ⟨g, 0, none⟩)] #[], .func (.func 103) #[.pointer (some ⟨g, 0, none⟩)] #[], .func (.func 104) #[.pointer (some ⟨g, 0, none⟩)] #[], .func (.func 105) #[.pointer (some ⟨g, 0, none⟩)] #[]] 162))) := (Below.refl _ _).alloc (Nat.le_refl _) _
      clear hA d1 h1
      go_enter Tryz.func78, Tryz.ntmps78
      go_wp2_with fail
      refine HAD.out.mono ?_
      rintro e w1 ⟨nx, er, rfl, hg1, hr1⟩
      have HG1 := Lib.hid (World.grownBy.trans (gr_below (r := some g) HB.out) hg1)
      have HR1 := Lib.hid hr1
      clear hg1 hr1 HAD HB
      go_wp2
      go_ret2
      exact ⟨nx, er, rfl, HG1.out, HR1.out⟩
    · have d3 : (kd == 3) = false := by simpa using h3
      have HA := Lib.hid hA
      have HG := Lib.hid (gr_below (r := some g) (Below.refl w.heap.size w))
      by_cases h24 : kd = 2 ∨ kd = 4 ∨ kd = 9
      · have HR : Hid (RestIs g s t a kd (a : Int) 0 w) := ⟨⟨kd, ByteArray.empty, ByteArray.empty⟩, sz, pl, hA, .inr (.inr (.inl ⟨h24, rfl, rfl, rfl⟩))⟩
        clear hA
        rcases h24 with rfl | rfl | rfl
        · clear h1 h3 d1 d3
          go_enter Tryz.func78, Tryz.ntmps78
          go_wp2
          go_ret2
          exact ⟨_, 0, rfl, HG.out, HR.out⟩
        · clear h1 h3 d1 d3
          go_enter Tryz.func78, Tryz.ntmps78
          go_wp2
          go_ret2
          exact ⟨_, 0, rfl, HG.out, HR.out⟩
        · clear h1 h3 d1 d3
          go_enter Tryz.func78, Tryz.ntmps78
          go_wp2
          go_ret2
          exact ⟨_, 0, rfl, HG.out, HR.out⟩
      · have HR : Hid (RestIs g s t a kd 0 6 w) := ⟨⟨kd, ByteArray.empty, ByteArray.empty⟩, sz, pl, hA, .inr (.inr (.inr ⟨by omega, rfl⟩))⟩
        have d2 : (kd == 2) = false := by simp; omega
        have d4 : (kd == 4) = false := by simp; omega
        have d9 : (kd == 9) = false := by simp; omega
        clear hA h1 h3 h24
        go_enter Tryz.func78, Tryz.ntmps78
        go_wp2
        go_ret2
        exact ⟨0, 6, rfl, HG.out, HR.out⟩
end Go.Proofs.YtfcclppgjfkfoaaGreatDoor

/- What Read of package token returns. Conditions: strings of at most 2^40 bytes. -/
namespace Go.Proofs.YtfcclppgjfkfoaaGreatDoor
open Go.RowKit

/-- What a reader has found at a place: an error, the last token, or a token. -/
def TokIs (g : Nat) (s t : ByteArray) (a : Nat) (x : Int) (er : Nat) (W : World) : Prop :=
  ∃ (tk : TK) (sz pl : Int), Rdr W g s t tk.kd tk.nm tk.vl sz pl ∧
    ((er ≠ 0 ∧ stepR (s.data.toList.drop a) t.data.toList = .err er) ∨
     (er = 0 ∧ tk.kd = 9 ∧ a + 4 ≤ s.size ∧ frombig (s.data.toList.drop a) = 9 ∧ x = ((a + 4 : Nat) : Int)) ∨
     (er = 0 ∧ tk.kd ≠ 9 ∧ ∃ n, stepR (s.data.toList.drop a) t.data.toList = .tok tk n ∧ x = ((a + 4 + n : Nat) : Int) ∧ a + 4 + n ≤ s.size))
theorem tok_rest {g : Nat} {s t : ByteArray} {a : Nat} {x : Int} {er : Nat} {W : World} (ha : a + 4 ≤ s.size) (h : RestIs g s t (a + 4) (frombig (s.data.toList.drop a)) x er W) : TokIs g s t a x er W := by
  have hl : (s.data.toList.drop a).length = s.size - a := by rw [List.length_drop]; rfl
  have h4 : ¬ (s.data.toList.drop a).length < 4 := by omega
  have hd : s.data.toList.drop (a + 4) = (s.data.toList.drop a).drop 4 := by rw [List.drop_drop]
  obtain ⟨tk, sz, pl, hR, h⟩ := h
  refine ⟨tk, sz, pl, hR, ?_⟩
  rw [hd] at h
  rcases h with ⟨hk, bn, n, hb, h5⟩ | ⟨hk, tk', n, hp, h5⟩ | ⟨hk, h0, hx, htk⟩ | ⟨hk, h6⟩
  · obtain ⟨s1, s2⟩ := step_1 (tx := t.data.toList) h4 hk hb
    by_cases he : er = 0
    · obtain ⟨rfl, rfl⟩ := h5 he
      have hle := beginR_le (l := (s.data.toList.drop a).drop 4)
      rw [hb, List.length_drop, hl] at hle
      simp only at hle
      exact .inr (.inr ⟨he, (show (1 : Int) ≠ 9 by decide), n, s2 he, rfl, by omega⟩)
    · exact .inl ⟨he, s1 he⟩
  · obtain ⟨s1, s2⟩ := step_3 (tx := t.data.toList) h4 hk hp
    by_cases he : er = 0
    · obtain ⟨rfl, rfl⟩ := h5 he
      have hle := propR_le (l := (s.data.toList.drop a).drop 4) (tx := t.data.toList)
      rw [hp, List.length_drop, hl] at hle
      simp only at hle
      subst he
      obtain ⟨nm, vx, rfl, _⟩ := propR_ok hp
      exact .inr (.inr ⟨rfl, (show (3 : Int) ≠ 9 by decide), n, s2 rfl, rfl, by omega⟩)
    · exact .inl ⟨he, s1 he⟩
  · subst h0; subst hx; subst htk
    by_cases h9 : frombig (s.data.toList.drop a) = 9
    · exact .inr (.inl ⟨rfl, h9, ha, h9, rfl⟩)
    · refine .inr (.inr ⟨rfl, h9, 0, step_24 h4 (by omega), by simp, by omega⟩)
  · subst h6
    exact .inl ⟨by decide, step_no h4 (fun h => hk (.inl h)) (fun h => hk (.inr (.inl h))) (fun h => hk (by omega)) (fun h => hk (by omega))⟩

def readSteps : List Nat := [77, 78]
/-- The two steps as they lie in memory. -/
def stepC (g : Nat) : Array Value := #[.func (.func 77) #[.pointer (some ⟨g, 0, none⟩)] #[], .func (.func 78) #[.pointer (some ⟨g, 0, none⟩)] #[]]
theorem tok_any (g : Nat) (s t : ByteArray) (kd : Int) (nm vl : ByteArray) (sz pl : Int) (a : Nat) (w : World) (hA : Rdr w g s t kd nm vl sz pl) (ha : a ≤ s.size) (hm : s.size ≤ 1099511627776) (ht : t.size ≤ maxLen) :
    Calls Tryz.prog 76 #[.int .i64 (a : Int), .slice (some ⟨w.heap.size, 0, none⟩) 2 2] (w.alloc (.cells (stepC g) 162)) fun e w' => ∃ (nx : Int) (er : Nat), e = .returned (.tuple #[.int .i64 nx, .int .i64 (er : Int)]) ∧ w.grownBy w' (some g) ∧ TokIs g s t a nx er w' := by
  have hgl := Arr.lt hA
  have hl : (s.data.toList.drop a).length = s.size - a := by rw [List.length_drop]; rfl
  have h := advance_any g w.heap.size readSteps 2 (fun k x W => match k with
    | 0 => x = (a : Int) ∧ Rdr W g s t kd nm vl sz pl
    | 1 => a + 4 ≤ s.size ∧ x = ((a + 4 : Nat) : Int) ∧ Rdr W g s t (frombig (s.data.toList.drop a)) ByteArray.empty ByteArray.empty sz pl
    | _ => TokIs g s t a x 0 W) (TokIs g s t a) (a : Int) (w.alloc (.cells (stepC g) 162)) (by omega) ?_ ?_ (by decide) ?_ ⟨rfl, Arr.alloc hA _⟩ ?_ (fun x W h => h)
  · refine h.mono ?_
    rintro e w' ⟨nx, er, rfl, q1, q2⟩
    exact ⟨nx, er, rfl, World.grownBy.trans (gr_below ((Below.refl _ _).alloc (Nat.le_refl _) _)) q1, q2⟩
  · intro k hk
    have hk2 : k < 2 := hk
    have hA := Arr.new w 162 (stepC g)
    match k, hk2 with
    | 0, _ => exact hA.cell 0
    | 1, _ => exact hA.cell 1
  · rw [sz_alloc]; omega
  · intro k hk
    have hk2 : k < 2 := hk
    match k, hk2 with
    | 0, _ => exact ent_kind
    | 1, _ => exact ent_rest
  · intro k hk x W hI
    have hk2 : k < 2 := hk
    match k, hk2 with
    | 0, _ =>
      obtain ⟨rfl, hR⟩ := hI
      refine (kind_any g s t kd nm vl sz pl a W hR ha hm).mono ?_
      rintro e W' ⟨⟨h1, h2⟩, h3⟩
      by_cases h : s.size < a + 4
      · obtain ⟨rfl, h4⟩ := h1 h
        refine ⟨0, 14, rfl, h3, (fun h => by cases h), fun _ => ⟨⟨0, _, _⟩, sz, pl, h4, .inl ⟨by decide, ?_⟩⟩⟩
        unfold stepR
        rw [if_pos (by omega)]
      · obtain ⟨rfl, h4⟩ := h2 (by omega)
        exact ⟨_, 0, rfl, h3, fun _ => ⟨by omega, rfl, h4⟩, fun h => absurd rfl h⟩
    | 1, _ =>
      obtain ⟨h4, rfl, hR⟩ := hI
      refine (rest_any g s t _ sz pl (a + 4) W hR h4 hm ht).mono ?_
      rintro e W' ⟨nx, er, rfl, q1, q2⟩
      have hT := tok_rest h4 q2
      refine ⟨nx, er, rfl, q1, fun h0 => ?_, fun h0 => ?_⟩
      · subst h0; exact hT
      · obtain ⟨tk, sz', pl', hR', h6⟩ := hT
        refine ⟨tk, sz', pl', hR', ?_⟩
        rcases h6 with h6 | ⟨h6, _⟩ | ⟨h6, _⟩
        · exact .inl h6
        · exact absurd h6 h0
        · exact absurd h6 h0
end Go.Proofs.YtfcclppgjfkfoaaGreatDoor
