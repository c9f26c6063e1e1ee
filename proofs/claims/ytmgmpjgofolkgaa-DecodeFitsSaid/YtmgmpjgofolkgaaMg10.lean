/- The document's Reserve of layer 14; spans in a slice of the call's own. Conditions: strings of at most 2^40 bytes. -/
import Derived.Test.YtmgmpjgofolkgaaMg7
import Derived.Test.YtmgmpjgofolkgaaMg8
import Derived.Test.YtmgmpjgofolkgaaMg9
namespace Go.Proofs.Ytmgmpjgofolkgaa
open Go.RowKit

/-- Spans as the cells of a slice. -/
def spD (L : List SP) : List Value := L.flatMap fun x => [.int .i64 x.p, .int .i64 x.n]
theorem spD_length (L : List SP) : (spD L).length = L.length * 2 := by
  unfold spD
  induction L with
  | nil => rfl
  | cons x R ih => simp only [List.flatMap_cons, List.length_append, List.length_cons, List.length_nil, ih]; omega
theorem spD_get (R : List SP) {k : Nat} (hk : k < R.length) : (spD R)[k * 2]? = some (.int .i64 (R.getD k sp0).p) ∧ (spD R)[k * 2 + 1]? = some (.int .i64 (R.getD k sp0).n) := by
  induction R generalizing k with
  | nil => simp at hk
  | cons x R ih =>
    have e : spD (x :: R) = .int .i64 x.p :: .int .i64 x.n :: spD R := rfl
    cases k with
    | zero => exact ⟨rfl, rfl⟩
    | succ k =>
      obtain ⟨h1, h2⟩ := ih (k := k) (by simpa using hk)
      rw [e, show (k + 1) * 2 = k * 2 + 2 by omega]
      exact ⟨by simpa using h1, by simpa using h2⟩
theorem spD_app (L : List SP) (a b : Int) : spD (L ++ [⟨a, b⟩]) = spD L ++ [.int .i64 a, .int .i64 b] := by
  unfold spD
  rw [List.flatMap_append]
  rfl
/-- Where spans lie: in no block below B. -/
def SpFar (B : Nat) (A : Option Addr) (L : List SP) : Prop := L = [] ∨ ∃ b off, A = some ⟨b, off, none⟩ ∧ B ≤ b
/-- A slice of the call's own that holds spans reads as them. -/
theorem own_spD {w : World} {B : Nat} {v : Value} {R : List SP} (h : w.ownsRow B 52 2 v R.length (spD R)) : ∃ A cap, v = .slice A R.length cap ∧ RdSp w A R ∧ SpFar B A R := by
  have hlt := h.lt
  rcases h.2 with ⟨rfl, hz⟩ | ⟨b, cap, cur, rfl, _, hg, _, _, _, hx⟩
  · have hR : R = [] := List.length_eq_zero_iff.1 hz
    subst hR
    exact ⟨none, 0, rfl, .inl rfl, .inl rfl⟩
  · refine ⟨_, cap, rfl, .inr ⟨b, 0, rfl, fun k hk => ?_⟩, .inr ⟨b, 0, rfl, (hlt b rfl).1⟩⟩
    obtain ⟨h1, h2⟩ := spD_get R hk
    have e : ∀ j, j < R.length * 2 → cur[j]? = (spD R)[j]? := fun j hj => by
      rw [← hx, List.getElem?_take_of_lt hj, Array.getElem?_toList]
    refine ⟨?_, ?_⟩
    · rw [Nat.zero_add, cell_of_row w b _ cur _ (0, 0) hg, e _ (by omega), h1]
    · rw [Nat.zero_add, cell_of_row w b _ cur _ (0, 0) hg, e _ (by omega), h2]
theorem elemSpD : ElemN Try.prog 27 52 2 16 := elemN_mk (z := .agg #[.int .i64 0, .int .i64 0]) Try.underlying27 (by kernel_rfl) rfl (by decide)
theorem extk_list (s : ByteArray) (k n : Nat) : (s.extract k (k + n)).data.toList = (s.data.toList.drop k).take n := by
  have e : (s.extract k (k + n)).data = s.data.extract k (k + n) := ByteArray.data_extract
  rw [e, Array.toList_extract, List.extract_eq_take_drop, Nat.add_sub_cancel_left]
/-- Four numbers of a place. -/
theorem rfour (s : ByteArray) (k : Nat) (hk : k + 16 ≤ s.size) (W : World) :
    Calls Try.prog 22 #[.string (s.extract k (k + 16))] W fun e w' => ∃ (b off cap : Nat), e = .returned (.tuple #[.slice (some ⟨b, off, none⟩) 4 cap, .bool true]) ∧ (∀ j, j < 4 → w'.cell? ⟨b, off + j, none⟩ = some (.int .i64 (numAt (s.data.toList.drop k) j))) ∧ Below W.heap.size W w' := by
  refine (reffrombigs_yes (s.extract k (k + 16)) 4 W (by rw [ByteArray.size_extract]; omega) (by rw [ByteArray.size_extract]; omega)).mono ?_
  rintro e w' ⟨v, rfl, hown, hb⟩
  rw [extk_list s k 16] at hown
  obtain ⟨A, cap, rfl, hr⟩ := rdI_of_own hown
  rcases hr with h | ⟨b, off, rfl, _, hc⟩
  · exact absurd (congrArg List.length h) (by rw [numsB_length]; decide)
  · refine ⟨b, off, cap, by rw [numsB_length], fun j hj => ?_, hb⟩
    rw [hc j (by rw [numsB_length]; exact hj), numsB_take16 _ _ hj]

def resvI (k : Nat) (s : List UInt8) (x : Int) : List SP × Nat := if x < 0 then ([], 14) else resvR k (s.drop x.toNat)

set_option maxHeartbeats 3200000 in
set_option maxRecDepth 100000 in
theorem rReserve_any (s : ByteArray) (a : Int) (w : World) (hs : s.size ≤ 1099511627776) (ha : -9223372036854775808 ≤ a ∧ a ≤ 9223372036854775807) :
    Calls Try.prog 9 #[.string s, .int .i64 a] w fun e w' => ∃ A cap, e = .returned (.tuple #[.slice A (resv s.data.toList a).1.length cap, .int .i64 ((resv s.data.toList a).2 : Int)]) ∧ RdSp w' A (resv s.data.toList a).1 ∧ SpFar w.heap.size A (resv s.data.toList a).1 ∧ Below w.heap.size w w' := by
  have hsz : s.data.toList.length = s.size := rfl
  have HR0 : Hid (resv s.data.toList a = joinS [] (resvI (16 - ([] : List SP).length) s.data.toList a)) := by
    unfold Hid resv resvI
    split
    · rfl
    · rw [joinS_nil]; rfl
  have HN1 : Hid (∀ k x, x < 0 → resvI k s.data.toList x = ([], 14)) := fun k x h => if_pos h
  have HN2 : Hid (∀ k (x : Nat), s.size < x + 16 → resvI k s.data.toList x = ([], 14)) := fun k x h => by
    refine (if_neg (by omega)).trans (resvR_short _ ?_)
    rw [List.length_drop, hsz]; omega
  have HN3 : Hid (∀ k (x : Nat), resvI k s.data.toList x = resvR k (s.data.toList.drop x)) := fun k x => if_neg (by omega)
  have HLN : Hid (∀ x : Nat, x + 16 ≤ s.size → ¬ (s.data.toList.drop x).length < 16) := fun x h => by rw [List.length_drop, hsz]; omega
  have HDD : Hid (∀ x : Nat, (s.data.toList.drop x).drop 16 = s.data.toList.drop (x + 16)) := fun x => List.drop_drop
  have HF := Lib.hid (fun k hk W => rfour s k hk W)
  have HEL := Lib.hid elemSpD
  generalize resv s.data.toList a = R at *
  generalize s.data.toList = l at *
  obtain ⟨ha1, ha2⟩ := ha
  clear hsz
  go_enter Try.func9, Try.ntmps9
  go_wp2
  go_loopw [1, 6] (fun x o wr => ∃ (n : Int) (O : List SP), x = .int .i64 n ∧ -9223372036854775808 ≤ n ∧ n ≤ 9223372036854775807 ∧ O.length ≤ 16 ∧ wr.ownsRow w.heap.size 52 2 o O.length (spD O) ∧ Hid (R = joinS O (resvI (16 - O.length) l n)) ∧ Below w.heap.size w wr) (fun x _ _ => s.size - (intOf x).toNat)
  case atStart => exact ⟨a, [], rfl, ha1, ha2, Nat.zero_le _, World.ownsRow_nil _ _ _ _, HR0, Below.refl _ _⟩
  case round =>
    clear HR0
    obtain ⟨n, O, rfl, hn1, hn2, hO, hown, HJ, hb⟩ := hrel
    have HOWN := Lib.hid hown
    have HB := Lib.hid hb
    have hsw := hb.size
    clear hown hb
    by_cases h0 : n < 0
    · have d0 : decide (0 ≤ n) = false := decide_eq_false (by omega)
      have HE : Hid (R = ([], 14)) := by unfold Hid; rw [HJ.out, HN1.out _ _ h0]; rfl
      clear h0 HN1 HN2 HN3 HLN HDD HF HEL HJ HOWN
      go_wp2
      go_ret2
      rw [HE.out]
      exact ⟨none, 0, rfl, .inl rfl, .inl rfl, HB.out⟩
    · obtain ⟨x, rfl⟩ : ∃ x : Nat, n = (x : Int) := ⟨n.toNat, by omega⟩
      have d0 : decide ((0 : Int) ≤ (x : Int)) = true := decide_eq_true (by omega)
      by_cases h1 : s.size < x
      · have d1 : decide ((x : Int) ≤ (s.size : Int)) = false := decide_eq_false (by omega)
        have HE : Hid (R = ([], 14)) := by unfold Hid; rw [HJ.out, HN2.out _ _ (by omega)]; rfl
        have h1' : ¬ x ≤ s.size := by omega
        clear h0 h1 HN1 HN2 HN3 HLN HDD HF HEL HJ HOWN
        go_wp2
        go_ret2
        rw [HE.out]
        exact ⟨none, 0, rfl, .inl rfl, .inl rfl, HB.out⟩
      · have d1 : decide ((x : Int) ≤ (s.size : Int)) = true := decide_eq_true (by omega)
        have h1' : x ≤ s.size := by omega
        have q1 : IntKind.i64.wrap ((s.size : Int) - (x : Int)) = (s.size : Int) - (x : Int) := IntWalk.i64_in _ (by omega)
        by_cases h2 : s.size < x + 16
        · have d2 : decide ((16 : Int) ≤ (s.size : Int) - (x : Int)) = false := decide_eq_false (by omega)
          have HE : Hid (R = ([], 14)) := by unfold Hid; rw [HJ.out, HN2.out _ _ h2]; rfl
          clear h0 h1 h2 HN1 HN2 HN3 HLN HDD HF HEL HJ HOWN
          go_wp2
          go_ret2
          rw [HE.out]
          exact ⟨none, 0, rfl, .inl rfl, .inl rfl, HB.out⟩
        · have d2 : decide ((16 : Int) ≤ (s.size : Int) - (x : Int)) = true := decide_eq_true (by omega)
          have q2 : IntKind.i64.wrap ((x : Int) + 16) = (x : Int) + 16 := IntWalk.i64_in _ (by omega)
          have hx : x + 16 ≤ s.size := by omega
          have hxi : (x : Int) + 16 ≤ s.size := by omega
          have hx1 : (x : Int) ≤ (x : Int) + 16 := by omega
          have hx0 : (0 : Int) ≤ x := by omega
          have hx2 : (0 : Int) ≤ (x : Int) + 16 := by omega
          have HF1 := Lib.hid (HF.out x hx)
          have HLX := Lib.hid (HLN.out x hx)
          have HDX := Lib.hid (HDD.out x)
          have HJX := HJ
          rw [HN3.out] at HJX
          have HN4 := Lib.hid (fun k => (HN3.out k (x + 16)).symm)
          generalize l.drop x = y at *
          clear h0 h1 h2 HN1 HN2 HN3 HLN HDD HF HJ
          go_wp2_with fail
          refine (HF1.out _).mono ?_
          rintro e w1 ⟨b, off, cap, rfl, hc, hb1⟩
          have HB1 := Lib.hid (HB.out.trans (hb1.mono hsw))
          have hown1 := ownsRow_below HOWN.out hb1
          have p0 := hc 0 (by omega)
          have p1 := hc 1 (by omega)
          have p2 := hc 2 (by omega)
          have p3 := hc 3 (by omega)
          rw [Nat.add_zero] at p0
          clear hb1 hc HB HOWN HF1
          have hsw1 := HB1.out.size
          by_cases g0 : numAt y 0 = 0
          · have f0 : (numAt y 0 != 0) = false := by rw [g0]; rfl
            by_cases g2 : numAt y 2 = 0
            · have f2 : (numAt y 2 != 0) = false := by rw [g2]; rfl
              have g02 : ¬ (numAt y 0 ≠ 0 ∨ numAt y 2 ≠ 0) := by rw [g0, g2]; simp
              obtain ⟨A9, c9, rfl, hc9⟩ := slice_ofN hown1
              by_cases g1 : numAt y 1 = 0
              · have f1 : (numAt y 1 == 0) = true := by rw [g1]; rfl
                by_cases g3 : numAt y 3 = 0
                · have f3 : (numAt y 3 == 0) = true := by rw [g3]; rfl
                  have HE : Hid (R = (O, 0)) := by unfold Hid; rw [HJX.out, resvR_end _ HLX.out g02 ⟨g1, g3⟩]; unfold joinS; rw [if_pos rfl, List.append_nil]
                  obtain ⟨A, c8, e8, hsp, hfar⟩ := own_spD hown1
                  injection e8 with e8 _ e9
                  subst e8 e9
                  have HSP := Lib.hid hsp
                  have HFR := Lib.hid hfar
                  generalize numAt y = nn at *
                  clear g0 g1 g2 g3 g02 HN4 HJX HEL HLX HDX hown1 hsp hfar
                  go_wp2
                  go_ret2
                  rw [HE.out]
                  exact ⟨_, _, rfl, HSP.out, HFR.out, HB1.out⟩
                · have f3 : (numAt y 3 == 0) = false := by simpa using g3
                  have g13 : ¬ (numAt y 1 = 0 ∧ numAt y 3 = 0) := fun h => g3 h.2
                  by_cases h16 : O.length = 16
                  · have g16 : (((O.length : Nat) : Int) == 16) = true := by rw [h16]; rfl
                    have HE : Hid (R = ([], 7)) := by unfold Hid; rw [HJX.out, h16, resvR_big HLX.out g02 g13]; rfl
                    generalize numAt y = nn at *
                    clear g0 g2 g02 g13 HN4 HJX HEL HLX HDX g1 g3
                    go_wp2
                    go_ret2
                    rw [HE.out]
                    exact ⟨none, 0, rfl, .inl rfl, .inl rfl, HB1.out⟩
                  · have g16 : (((O.length : Nat) : Int) == 16) = false := by simp; omega
                    have hO2 : O.length + 1 ≤ 16 := by omega
                    have HJ2 : Hid (R = joinS (O ++ [⟨numAt y 1, numAt y 3⟩]) (resvI (16 - (O ++ [(⟨numAt y 1, numAt y 3⟩ : SP)]).length) l (((x + 16 : Nat) : Int)))) := by
                      unfold Hid
                      rw [HJX.out, List.length_append, List.length_cons, List.length_nil, show 16 - O.length = (16 - (O.length + (0 + 1))) + 1 by omega, resvR_next HLX.out g02 g13, joinS_join, HDX.out, HN4.out]
                    have HA2 := Lib.hid (spD_app O (numAt y 1) (numAt y 3))
                    generalize numAt y = nn at *
                    clear g0 g2 g02 g13 HN4 HJX HLX HDX g1 g3
                    have hba : Below w1.heap.size w1 (w1.alloc (.cells #[.int .i64 (nn 1), .int .i64 (nn 3)] 52)).drew := ((Below.refl _ _).alloc (Nat.le_refl _) _).drew
                    have HBD : Hid (Below w.heap.size w (w1.alloc (.cells #[.int .i64 (nn 1), .int .i64 (nn 3)] 52)).drew) := (HB1.out.alloc hsw1 _).drew
                    have HOD := Lib.hid (ownsRow_below hown1 hba)
                    have HAD : Hid (Arr (w1.alloc (.cells #[.int .i64 (nn 1), .int .i64 (nn 3)] 52)).drew w1.heap.size 52 #[.int .i64 (nn 1), .int .i64 (nn 3)]) := Arr.new w1 _ _
                    have HLE := Lib.hid HBD.out.size
                    have HON : Hid (∀ u ∈ (#[.int .i64 (nn 1), .int .i64 (nn 3)] : Array Value).toList, u.oneCell' = true) := by
                      intro u hu
                      simp at hu
                      rcases hu with rfl | rfl <;> rfl
                    clear hown1 hba
                    go_upto_region 10 with fail
                    go_region_law (first | (refine step_append_at (by rfl) _ _ _ (by rfl) 52 2 16 HEL w.heap.size (.slice A9 O.length c9) O.length (spD O) (by rfl) HOD.out w1.heap.size #[.int .i64 (nn 1), .int .i64 (nn 3)] HAD.out rfl HON.out (by rfl) (by unfold maxLen; omega) (by omega) HLE.out ?_; intro g5 cap5 w5 r1 r2 r3 r4))
                    all_goals (
                      have hb5 : Below w.heap.size w w5 := HBD.out.grown r2 HLE.out (fun g hg => (HOD.out.lt g hg).1)
                      have HR5 := Lib.hid r1
                      have HB5 := Lib.hid hb5
                      clear r1 r2 r3 r4 hb5 HBD HOD HAD HLE HON HEL
                      go_wp2
                      go_roundw
                      case rel => exact ⟨((x + 16 : Nat) : Int), O ++ [⟨nn 1, nn 3⟩], by go_num, by omega, by omega, by rw [List.length_append]; exact hO2, by rw [HA2.out, List.length_append]; exact HR5.out, HJ2, HB5.out⟩
                      case measure => simp [intOf]; omega)
              · have f1 : (numAt y 1 == 0) = false := by simpa using g1
                have g13 : ¬ (numAt y 1 = 0 ∧ numAt y 3 = 0) := fun h => g1 h.1
                by_cases h16 : O.length = 16
                · have g16 : (((O.length : Nat) : Int) == 16) = true := by rw [h16]; rfl
                  have HE : Hid (R = ([], 7)) := by unfold Hid; rw [HJX.out, h16, resvR_big HLX.out g02 g13]; rfl
                  generalize numAt y = nn at *
                  clear g0 g2 g02 g13 HN4 HJX HEL HLX HDX g1
                  go_wp2
                  go_ret2
                  rw [HE.out]
                  exact ⟨none, 0, rfl, .inl rfl, .inl rfl, HB1.out⟩
                · have g16 : (((O.length : Nat) : Int) == 16) = false := by simp; omega
                  have hO2 : O.length + 1 ≤ 16 := by omega
                  have HJ2 : Hid (R = joinS (O ++ [⟨numAt y 1, numAt y 3⟩]) (resvI (16 - (O ++ [(⟨numAt y 1, numAt y 3⟩ : SP)]).length) l (((x + 16 : Nat) : Int)))) := by
                    unfold Hid
                    rw [HJX.out, List.length_append, List.length_cons, List.length_nil, show 16 - O.length = (16 - (O.length + (0 + 1))) + 1 by omega, resvR_next HLX.out g02 g13, joinS_join, HDX.out, HN4.out]
                  have HA2 := Lib.hid (spD_app O (numAt y 1) (numAt y 3))
                  generalize numAt y = nn at *
                  clear g0 g2 g02 g13 HN4 HJX HLX HDX g1
                  have hba : Below w1.heap.size w1 (w1.alloc (.cells #[.int .i64 (nn 1), .int .i64 (nn 3)] 52)).drew := ((Below.refl _ _).alloc (Nat.le_refl _) _).drew
                  have HBD : Hid (Below w.heap.size w (w1.alloc (.cells #[.int .i64 (nn 1), .int .i64 (nn 3)] 52)).drew) := (HB1.out.alloc hsw1 _).drew
                  have HOD := Lib.hid (ownsRow_below hown1 hba)
                  have HAD : Hid (Arr (w1.alloc (.cells #[.int .i64 (nn 1), .int .i64 (nn 3)] 52)).drew w1.heap.size 52 #[.int .i64 (nn 1), .int .i64 (nn 3)]) := Arr.new w1 _ _
                  have HLE := Lib.hid HBD.out.size
                  have HON : Hid (∀ u ∈ (#[.int .i64 (nn 1), .int .i64 (nn 3)] : Array Value).toList, u.oneCell' = true) := by
                    intro u hu
                    simp at hu
                    rcases hu with rfl | rfl <;> rfl
                  clear hown1 hba
                  go_upto_region 10 with fail
                  go_region_law (first | (refine step_append_at (by rfl) _ _ _ (by rfl) 52 2 16 HEL w.heap.size (.slice A9 O.length c9) O.length (spD O) (by rfl) HOD.out w1.heap.size #[.int .i64 (nn 1), .int .i64 (nn 3)] HAD.out rfl HON.out (by rfl) (by unfold maxLen; omega) (by omega) HLE.out ?_; intro g5 cap5 w5 r1 r2 r3 r4))
                  all_goals (
                    have hb5 : Below w.heap.size w w5 := HBD.out.grown r2 HLE.out (fun g hg => (HOD.out.lt g hg).1)
                    have HR5 := Lib.hid r1
                    have HB5 := Lib.hid hb5
                    clear r1 r2 r3 r4 hb5 HBD HOD HAD HLE HON HEL
                    go_wp2
                    go_roundw
                    case rel => exact ⟨((x + 16 : Nat) : Int), O ++ [⟨nn 1, nn 3⟩], by go_num, by omega, by omega, by rw [List.length_append]; exact hO2, by rw [HA2.out, List.length_append]; exact HR5.out, HJ2, HB5.out⟩
                    case measure => simp [intOf]; omega)
            · have f2 : (numAt y 2 != 0) = true := by simpa using g2
              have HE : Hid (R = ([], 6)) := by unfold Hid; rw [HJX.out, resvR_form _ HLX.out (.inr g2)]; rfl
              generalize numAt y = nn at *
              clear g0 g2 HN4 HJX HEL HLX HDX
              go_wp2
              go_ret2
              rw [HE.out]
              exact ⟨none, 0, rfl, .inl rfl, .inl rfl, HB1.out⟩
          · have f0 : (numAt y 0 != 0) = true := by simpa using g0
            have HE : Hid (R = ([], 6)) := by unfold Hid; rw [HJX.out, resvR_form _ HLX.out (.inl g0)]; rfl
            generalize numAt y = nn at *
            clear g0 HN4 HJX HEL HLX HDX
            go_wp2
            go_ret2
            rw [HE.out]
            exact ⟨none, 0, rfl, .inl rfl, .inl rfl, HB1.out⟩
end Go.Proofs.Ytmgmpjgofolkgaa
