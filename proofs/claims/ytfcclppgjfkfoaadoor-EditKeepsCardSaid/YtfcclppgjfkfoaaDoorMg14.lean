/- What the document's walk of trees returns. Conditions: a tree that is read, with names of at most 100 bytes, and of at most 2^39 nodes. -/
import Derived.Test.YtfcclppgjfkfoaaDoorMg12
import Derived.Test.YtfcclppgjfkfoaaDoorMg13
import Derived.Test.YtfcclppgjfkfoaaDoorMg5
import Derived.Deep.RegionLaw
import Derived.Deep.AppendLies
import Derived.Test.YtfcclppgjfkfoaaDoorMg6
import Derived.Test.YtfcclppgjfkfoaaDoorMg9
import Derived.Test.YtfcclppgjfkfoaaDoorMg11
namespace Go.Proofs.YtfcclppgjfkfoaaDoor
open Go.RowKit

/-- A node of a list of spots: its path, itself, its slices. -/
structure SPT where
  pa : ByteArray
  nd : ND
  y : Value
  z : Value
def spl (s : SPT) : List Value := [.string s.pa, .string s.nd.nm, s.y, s.z]
def spL (L : List SPT) : List Value := L.flatMap spl
def spP (s : SPT) : List UInt8 × ND := (s.pa.data.toList, s.nd)
theorem spL_app (l r : List SPT) : spL (l ++ r) = spL l ++ spL r := by simp [spL]
theorem spL_length (l : List SPT) : (spL l).length = l.length * 4 := by
  induction l with
  | nil => rfl
  | cons x l ih => show (spl x ++ spL l).length = _; rw [List.length_append, ih, List.length_cons]; simp only [spl, List.length_cons, List.length_nil]; omega
/-- Are all names of so many levels below of at most 100 bytes? -/
def nmR : Nat → ND → Bool
  | 0, _ => true
  | k + 1, n => n.ks.all fun x => decide (x.nm.size ≤ 100) && nmR k x
theorem nm_of_low : ∀ (k j : Nat) (n : ND), lowR j n = true → nmR k n = true
  | 0, _, _, _ => rfl
  | k + 1, 0, _, h => by cases h
  | k + 1, j + 1, n, h => by
    show (n.ks.all fun x => decide (x.nm.size ≤ 100) && nmR k x) = true
    rw [List.all_eq_true]
    intro x hx
    have hl := low_kids h x hx
    match j, hl with
    | j + 1, hl => rw [decide_eq_true (low_parts hl).1, nm_of_low k (j + 1) x hl]; rfl
theorem nm_kids {k : Nat} {n : ND} (h : nmR (k + 1) n = true) : ∀ x ∈ n.ks, x.nm.size ≤ 100 ∧ nmR k x = true := fun x hx => by
  have h' := List.all_eq_true.1 (show (n.ks.all fun x => decide (x.nm.size ≤ 100) && nmR k x) = true from h) x hx
  rw [Bool.and_eq_true] at h'
  exact ⟨of_decide_eq_true h'.1, h'.2⟩
/-- The spots behind j kids. -/
def wkR (k : Nat) (p : List UInt8) (n : ND) (j : Nat) : List (List UInt8 × ND) := (p, n) :: (n.ks.take j).flatMap fun x => walkR k (under p ++ x.nm.data.toList) x
theorem wkR_succ (k : Nat) (p : List UInt8) (n : ND) {j : Nat} (hj : j < n.ks.length) : wkR k p n (j + 1) = wkR k p n j ++ walkR k (under p ++ (n.ks.getD j nd0).nm.data.toList) (n.ks.getD j nd0) := by
  unfold wkR
  rw [List.take_succ_eq_append_getElem hj, List.flatMap_append, List.cons_append]
  have e : n.ks.getD j nd0 = n.ks[j] := by rw [List.getD_eq_getElem?_getD, List.getElem?_eq_getElem hj]; rfl
  rw [e]; simp
theorem wkR_all (k : Nat) (p : List UInt8) (n : ND) : walkR (k + 1) p n = wkR k p n n.ks.length := by unfold wkR; rw [List.take_length]; rfl
theorem walk_len : ∀ (k : Nat) (p : List UInt8) (n : ND), (walkR k p n).length = (countR k n).a
  | 0, _, _ => rfl
  | k + 1, p, n => by
    have h : ∀ l : List ND, (l.flatMap fun x => walkR k (under p ++ x.nm.data.toList) x).length = (csum k l).a := by
      intro l
      induction l with
      | nil => rfl
      | cons x l ih =>
        rw [List.flatMap_cons, List.length_append, ih, walk_len k _ x]; rfl
    rw [countR_succ]
    show (n.ks.flatMap _).length + 1 = 1 + _
    rw [h]; omega
theorem wk_le (k : Nat) (p : List UInt8) (n : ND) {j : Nat} (hj : j < n.ks.length) : (wkR k p n j).length + (walkR k (under p ++ (n.ks.getD j nd0).nm.data.toList) (n.ks.getD j nd0)).length ≤ (countR (k + 1) n).a := by
  have h1 : ∀ d i, i + d ≤ n.ks.length → (wkR k p n i).length ≤ (wkR k p n (i + d)).length := by
    intro d
    induction d with
    | zero => intro i _; exact Nat.le_refl _
    | succ d ih =>
      intro i hi
      have h1 := ih i (by omega)
      rw [show i + (d + 1) = i + d + 1 by omega, wkR_succ k p n (show i + d < n.ks.length by omega), List.length_append]
      omega
  have h2 := h1 (n.ks.length - (j + 1)) (j + 1) (by omega)
  rw [show j + 1 + (n.ks.length - (j + 1)) = n.ks.length by omega, ← wkR_all, walk_len, wkR_succ k p n hj, List.length_append] at h2
  exact h2
theorem add_str {x y z : ByteArray} (hz : z.data.toList = x.data.toList ++ y.data.toList) (h : x.size + y.size ≤ 1099511627776) (W : World) : (Op.stringOp .add x y).run Tryd.prog W = .ok (.string z) W := by
  have hs : ∀ l : List UInt8, (ByteArray.mk l.toArray).size = l.length := fun l => by show l.toArray.size = _; simp
  have hb : ∀ s : ByteArray, (⟨s.data.toList.toArray⟩ : ByteArray) = s := fun s => by cases s; simp
  have := run_string_add_sum (P := Tryd.prog) W (⟨x.data.toList.toArray⟩ : ByteArray) ⟨y.data.toList.toArray⟩ (by rw [hs, hs]; show x.size + y.size ≤ _; omega)
  rw [ByteArray.mk_append_mk, hb, hb, ← hz, hb] at this
  exact this
/-- A path as bytes, with a slash behind it. -/
theorem under_one (p : ByteArray) (m : Nat) (hm : p.size = m + 1) : p.data.toList.getLast? = some (p.data.toList.getD m 0) := by
  have hl : p.data.toList.length = m + 1 := hm
  rw [List.getLast?_eq_getElem?, hl, List.getD_eq_getElem?_getD, show m + 1 - 1 = m by omega, List.getElem?_eq_getElem (by omega)]; rfl

end Go.Proofs.YtfcclppgjfkfoaaDoor

/- The document's Join, Kid and Value of layer 16. Conditions: names of at most 10^6 bytes; a tree that is read. -/
namespace Go.Proofs.YtfcclppgjfkfoaaDoor
open Go.RowKit

theorem join_take (l : List ByteArray) {k : Nat} (hk : k < l.length) : (l.take (k + 1)).flatMap (fun x => 47 :: x.data.toList) = ((l.take k).flatMap (fun x => 47 :: x.data.toList) ++ [47]) ++ (l.getD k ByteArray.empty).data.toList := by
  rw [List.take_succ_eq_append_getElem hk, List.flatMap_append]
  have e : l.getD k ByteArray.empty = l[k] := by rw [List.getD_eq_getElem?_getD, List.getElem?_eq_getElem hk]; rfl
  rw [e]; simp

set_option maxHeartbeats 1600000 in
set_option maxRecDepth 100000 in
theorem rjoin_any (A : Option Addr) (cap : Nat) (l : List ByteArray) (w : World) (hr : RdT w A l) (hl : l.length ≤ 1000) (hz : ∀ k, k < l.length → (l.getD k ByteArray.empty).size ≤ 1000000) :
    Calls Tryd.prog 48 #[.slice A l.length cap] w fun e w' => e = .returned (.string ⟨(joinB l).toArray⟩) ∧ w' = w := by
  have HR := Lib.hid hr
  have HZ := Lib.hid hz
  have HT := Lib.hid (fun k (hk : k < l.length) => join_take l hk)
  by_cases h0 : l = []
  · subst h0
    have HE : Hid (joinB [] = [47]) := if_pos rfl
    clear HR HZ HT hr hz hl
    generalize joinB [] = R at *
    go_enter Tryd.func48, Tryd.ntmps48
    go_wp2
    go_loop [3, 4] (fun s i => s = .string ⟨#[]⟩ ∧ i = .int .i64 0) (fun _ _ => 0)
    case atStart => exact ⟨rfl, rfl⟩
    case round =>
      obtain ⟨rfl, rfl⟩ := hrel
      go_wp2
      go_ret
      exact ⟨by rw [HE.out]; rfl, rfl⟩
  · have HE : Hid (joinB l = l.flatMap fun x => 47 :: x.data.toList) := if_neg h0
    have hl1 : 1 ≤ l.length := by
      have : l.length ≠ 0 := fun e => h0 (List.length_eq_zero_iff.1 e)
      omega
    have d0 : ((l.length : Int) == 0) = false := by simp; omega
    clear h0 hr hz
    generalize joinB l = R at *
    go_enter Tryd.func48, Tryd.ntmps48
    go_wp2
    go_loop [3, 4] (fun s iv => ∃ (k : Nat) (S : ByteArray), k ≤ l.length ∧ iv = .int .i64 k ∧ s = .string S ∧ Hid (S.data.toList = (l.take k).flatMap fun x => 47 :: x.data.toList) ∧ S.size ≤ k * 1000001) (fun _ iv => l.length - (intOf iv).toNat)
    case atStart => exact ⟨0, ⟨#[]⟩, Nat.zero_le _, rfl, rfl, rfl, Nat.zero_le _⟩
    case round =>
      obtain ⟨k, S, hk, rfl, rfl, HS, hsz⟩ := hrel
      by_cases hlt : k < l.length
      · have hki : (k : Int) < l.length := by omega
        obtain ⟨b, off, x, rfl, h1, HX⟩ := HR.out.at_ hlt
        have hx := HZ.out k hlt
        have ht := HT.out k hlt
        rw [HX.out] at hx ht
        obtain ⟨S1, hS1⟩ : ∃ S1 : ByteArray, S1.data.toList = S.data.toList ++ [47] := ⟨⟨(S.data.toList ++ [47]).toArray⟩, by simp⟩
        obtain ⟨S2, hS2⟩ : ∃ S2 : ByteArray, S2.data.toList = S1.data.toList ++ x.data.toList := ⟨⟨(S1.data.toList ++ x.data.toList).toArray⟩, by simp⟩
        have z1 : S1.size = S.size + 1 := by show S1.data.toList.length = _; rw [hS1, List.length_append]; rfl
        have z2 : S2.size = S1.size + x.size := by show S2.data.toList.length = _; rw [hS2, List.length_append]; rfl
        have a1 : ∀ W, (Op.stringOp .add S ⟨#[47]⟩).run Tryd.prog W = .ok (.string S1) W := fun W => add_str (by rw [hS1]) (by show S.size + 1 ≤ _; omega) W
        have a2 : ∀ W, (Op.stringOp .add S1 x).run Tryd.prog W = .ok (.string S2) W := fun W => add_str hS2 (by omega) W
        have HS2 : Hid (S2.data.toList = (l.take (k + 1)).flatMap fun x => 47 :: x.data.toList) := by unfold Hid; rw [hS2, hS1, HS.out, ht]
        have hb2 : S2.size ≤ (k + 1) * 1000001 := by omega
        clear hS1 hS2 z1 z2 ht HX
        go_wp2
        go_round
        case rel => exact ⟨k + 1, S2, by omega, by go_num, rfl, HS2.out, hb2⟩
        case measure => simp [intOf]; omega
      · obtain rfl : k = l.length := by omega
        have HSE : Hid (R = S.data.toList) := by unfold Hid; rw [HE.out, HS.out, List.take_length]
        go_wp2
        go_ret
        exact ⟨by rw [HSE.out]; show Ending.returned (.string S) = _; rw [show (⟨S.data.toList.toArray⟩ : ByteArray) = S by cases S; simp], rfl⟩

set_option maxHeartbeats 1600000 in
set_option maxRecDepth 100000 in
theorem rkid_any (G : Nat → Prop) (n : ND) (v2 v3 : Value) (nm : ByteArray) (w : World) (hN : NdAt w G n v2 v3) :
    Calls Tryd.prog 29 #[.agg #[.string n.nm, v2, v3], .string nm] w fun e w' => ∃ u2 u3, e = .returned (.tuple #[.agg #[.string (orN (kidR n nm)).nm, u2, u3], .bool (kidR n nm).isSome]) ∧ NdAt w' G (orN (kidR n nm)) u2 u3 ∧ Below w.heap.size w w' := by
  obtain ⟨A, K, pc, kc, rfl, rfl, hpc, hpm, hkc, hkm⟩ := nd_shape hN
  unfold maxLen at hpm hkm
  have HHIT : Hid (∀ k, k < n.ks.length → (∀ j, j < k → decide ((n.ks.getD j nd0).nm = nm) = false) → decide ((n.ks.getD k nd0).nm = nm) = true → kidR n nm = some (n.ks.getD k nd0)) := fun k hk hj h => find_take (f := fun x : ND => decide (x.nm = nm)) (d := nd0) hk hj h
  have HNO : Hid ((∀ j, j < n.ks.length → decide ((n.ks.getD j nd0).nm = nm) = false) → kidR n nm = none) := fun h => find_none (f := fun x : ND => decide (x.nm = nm)) (d := nd0) h
  generalize kidR n nm = R at *
  obtain ⟨W1, hW1⟩ : ∃ W1, W1 = (w.alloc (.cells #[.string n.nm, .slice A n.ps.length pc, .slice K n.ks.length kc] 25)).alloc (.cells #[.string ⟨#[]⟩, .slice none 0 0, .slice none 0 0] 25) := ⟨_, rfl⟩
  obtain ⟨g2, hg2⟩ : ∃ g2, g2 = w.heap.size := ⟨_, rfl⟩
  obtain ⟨g4, hg4⟩ : ∃ g4, g4 = w.heap.size + 1 := ⟨_, rfl⟩
  have hB1 : Below w.heap.size w W1 := by rw [hW1]; exact ((Below.refl _ _).alloc (Nat.le_refl _) _).alloc (by rw [sz_alloc]; omega) _
  have hA2 : Arr W1 g2 25 #[.string n.nm, .slice A n.ps.length pc, .slice K n.ks.length kc] := by rw [hW1, hg2]; exact (Arr.new w _ _).alloc _
  have hA4 : Arr W1 g4 25 #[.string ⟨#[]⟩, .slice none 0 0, .slice none 0 0] := by rw [hW1, hg4]; exact Arr.new1 w _ _ _
  have HN0 := Lib.hid hN
  have HN := Lib.hid (nd_below hN hB1)
  have HA4 := Lib.hid hA4
  have HB := Lib.hid hB1
  have HG4 : Hid (w.heap.size ≤ g4) := by unfold Hid; omega
  have HKP : Hid (∀ (x : ND) y z cs, NdAt w G x y z → NdAt (W1.setRow g4 cs) G x y z) := fun x y z cs h =>
    ((nd_below (nd_and h) hB1).kept (moved_setRow W1 g4 cs) (fun k hk e => by have := hk.2; omega)).mono (fun k hk => hk.1)
  have k2 : W1.cell? ⟨g2, 2, none⟩ = some (.slice K n.ks.length kc) := hA2.cell 2
  clear hN hB1 hA2 hA4
  go_enter Tryd.func29, Tryd.ntmps29
  go_upto_region 1 with fail
  change Code.wp _ _ _ _ ((w.alloc (.cells #[.string n.nm, .slice A n.ps.length pc, .slice K n.ks.length kc] 25)).alloc (.cells #[.string ⟨#[]⟩, .slice none 0 0, .slice none 0 0] 25))
  rw [← hW1, ← hg4, ← hg2]
  clear hW1 hg4 hg2
  go_wp2
  go_loop [6] (fun iv => ∃ i : Nat, i ≤ n.ks.length ∧ iv = .int .i64 i ∧ Hid (∀ j, j < i → decide ((n.ks.getD j nd0).nm = nm) = false)) (fun iv => n.ks.length - (intOf iv).toNat)
  case atStart => exact ⟨0, Nat.zero_le _, rfl, fun j h => absurd h (Nat.not_lt_zero _)⟩
  case round =>
    obtain ⟨i, hi, rfl, HJ⟩ := hrel
    by_cases hlt : i < n.ks.length
    · have hii : (i : Int) < n.ks.length := by omega
      obtain ⟨b, off, x, y, z, rfl, h1, h2, h3, h4, HX⟩ := nd_kid HN.out hlt
      by_cases he : x.nm = nm
      · have d1 : (x.nm.toList == nm.toList) = true := by rw [he]; simp
        have HE : Hid (R = some x) := by
          have := HHIT.out i hlt HJ.out (by rw [HX.out]; exact decide_eq_true he)
          rw [HX.out] at this
          exact this
        obtain ⟨ya, za, yc, zc, rfl, rfl, _⟩ := nd_shape h4
        have HONE : Hid ((#[.string x.nm, .slice ya x.ps.length yc, .slice za x.ks.length zc] : Array Value).all (·.oneCell') = true) := by
          unfold Hid
          rw [Array.all_eq_true_iff_forall_mem]
          intro v hv
          simp at hv
          rcases hv with rfl | rfl | rfl <;> rfl
        have HND : Hid (NdAt (W1.setRow g4 #[.string x.nm, .slice ya x.ps.length yc, .slice za x.ks.length zc]) G x (.slice ya x.ps.length yc) (.slice za x.ks.length zc)) := by
          obtain ⟨b1, off1, x1, y1, z1, e1, c1, c2, c3, h41, HX1⟩ := nd_kid HN0.out hlt
          have ex : x1 = x := HX1.out.symm.trans HX.out
          subst ex
          injection e1 with e1
          injection e1 with e1 e2 _
          subst e1 e2
          have M := Moved.of_below HB.out (fun _ => False)
          have q2 := cell_kept M id c2
          have q3 := cell_kept M id c3
          rw [h2] at q2
          rw [h3] at q3
          injection q2 with q2
          injection q3 with q3
          rw [q2, q3]
          exact HKP.out _ _ _ _ h41
        have HBF : Hid (Below w.heap.size w (W1.setRow g4 #[.string x.nm, .slice ya x.ps.length yc, .slice za x.ks.length zc])) := below_setRow HB.out HG4.out _
        clear he HX h4 HJ HHIT HNO HN HN0 HKP
        go_wp2_with (refine wpList_store_row rfl 25 (.tmp 4) (.tmp 26) rfl g4 #[.string x.nm, .slice ya x.ps.length yc, .slice za x.ks.length zc] rfl rfl _ _ HA4.out (infoNd _ _ _) rfl HONE.out ?_)
        exact bodyPost_ret (results_rowN rfl _ _ g4 _ #[.string x.nm, .slice ya x.ps.length yc, .slice za x.ks.length zc] _ _ rfl (HA4.out.row _) Tryd.underlying25 rfl (infoNd _ _ _)) rfl ⟨_, _, by rw [HE.out]; rfl, by rw [HE.out]; exact HND.out, HBF.out⟩
      · have d1 : (x.nm.toList == nm.toList) = false := by simpa using str_ne12 he
        have HJ1 : Hid (∀ j, j < i + 1 → decide ((n.ks.getD j nd0).nm = nm) = false) := fun j hj => by
          by_cases e : j = i
          · rw [e, HX.out]; exact decide_eq_false he
          · exact HJ.out j (by omega)
        clear he HX h4 HJ
        go_wp2
        go_round
        case rel => exact ⟨i + 1, by omega, by go_num, HJ1.out⟩
        case measure => simp [intOf]; omega
    · obtain rfl : i = n.ks.length := by omega
      have HE : Hid (R = none) := HNO.out HJ.out
      have HBF : Hid (Below w.heap.size w (W1.setRow g4 #[.string ⟨#[]⟩, .slice none 0 0, .slice none 0 0])) := below_setRow HB.out HG4.out _
      clear HJ HHIT HNO HN HN0 HKP
      go_wp2_with (refine wpList_store_row rfl 25 (.tmp 4) (.tmp 27) rfl g4 #[.string ⟨#[]⟩, .slice none 0 0, .slice none 0 0] rfl rfl _ _ HA4.out (infoNd _ _ _) rfl zl_one ?_)
      exact bodyPost_ret (results_rowN rfl _ _ g4 _ #[.string ⟨#[]⟩, .slice none 0 0, .slice none 0 0] _ _ rfl (HA4.out.row _) Tryd.underlying25 rfl (infoNd _ _ _)) rfl ⟨_, _, by rw [HE.out]; rfl, by rw [HE.out]; exact nd0_at _ _, HBF.out⟩

set_option maxHeartbeats 1600000 in
set_option maxRecDepth 100000 in
theorem rvalue_any (G : Nat → Prop) (n : ND) (v2 v3 : Value) (nm : ByteArray) (w : World) (hN : NdAt w G n v2 v3) :
    Calls Tryd.prog 15 #[.agg #[.string n.nm, v2, v3], .string nm] w fun e w' => e = .returned (.tuple #[.string ((valR n nm).getD ⟨#[]⟩), .bool (valR n nm).isSome]) ∧ Below w.heap.size w w' := by
  obtain ⟨A, K, pc, kc, rfl, rfl, hpc, hpm, hkc, hkm⟩ := nd_shape hN
  unfold maxLen at hpm hkm
  have HHIT : Hid (∀ k, k < n.ps.length → (∀ j, j < k → decide ((n.ps.getD j pr0).nm = nm) = false) → decide ((n.ps.getD k pr0).nm = nm) = true → valR n nm = some (n.ps.getD k pr0).vl) := fun k hk hj h => by
    unfold valR; rw [find_take (f := fun x : PR => decide (x.nm = nm)) (d := pr0) hk hj h]; rfl
  have HNO : Hid ((∀ j, j < n.ps.length → decide ((n.ps.getD j pr0).nm = nm) = false) → valR n nm = none) := fun h => by
    unfold valR; rw [find_none (f := fun x : PR => decide (x.nm = nm)) (d := pr0) h]; rfl
  generalize valR n nm = R at *
  obtain ⟨W1, hW1⟩ : ∃ W1, W1 = w.alloc (.cells #[.string n.nm, .slice A n.ps.length pc, .slice K n.ks.length kc] 25) := ⟨_, rfl⟩
  obtain ⟨g2, hg2⟩ : ∃ g2, g2 = w.heap.size := ⟨_, rfl⟩
  have hB1 : Below w.heap.size w W1 := by rw [hW1]; exact (Below.refl _ _).alloc (Nat.le_refl _) _
  have hA2 : Arr W1 g2 25 #[.string n.nm, .slice A n.ps.length pc, .slice K n.ks.length kc] := by rw [hW1, hg2]; exact Arr.new w _ _
  have HN := Lib.hid (nd_below hN hB1)
  have HB := Lib.hid hB1
  have k1 : W1.cell? ⟨g2, 1, none⟩ = some (.slice A n.ps.length pc) := hA2.cell 1
  clear hN hB1 hA2
  go_enter Tryd.func15, Tryd.ntmps15
  go_upto_region 1 with fail
  rw [← hW1, ← hg2]
  clear hW1 hg2
  go_wp2
  go_loop [6] (fun iv => ∃ i : Nat, i ≤ n.ps.length ∧ iv = .int .i64 i ∧ Hid (∀ j, j < i → decide ((n.ps.getD j pr0).nm = nm) = false)) (fun iv => n.ps.length - (intOf iv).toNat)
  case atStart => exact ⟨0, Nat.zero_le _, rfl, fun j h => absurd h (Nat.not_lt_zero _)⟩
  case round =>
    obtain ⟨i, hi, rfl, HJ⟩ := hrel
    by_cases hlt : i < n.ps.length
    · have hii : (i : Int) < n.ps.length := by omega
      obtain ⟨b, off, x, rfl, ⟨h1, h2⟩, HX⟩ := nd_prop HN.out hlt
      by_cases he : x.nm = nm
      · have d1 : (x.nm.toList == nm.toList) = true := by rw [he]; simp
        have HE : Hid (R = some x.vl) := by
          have := HHIT.out i hlt HJ.out (by rw [HX.out]; exact decide_eq_true he)
          rw [HX.out] at this
          exact this
        clear he HX HJ HHIT HNO HN
        go_wp2
        go_ret2
        exact ⟨by rw [HE.out]; rfl, HB.out⟩
      · have d1 : (x.nm.toList == nm.toList) = false := by simpa using str_ne12 he
        have HJ1 : Hid (∀ j, j < i + 1 → decide ((n.ps.getD j pr0).nm = nm) = false) := fun j hj => by
          by_cases e : j = i
          · rw [e, HX.out]; exact decide_eq_false he
          · exact HJ.out j (by omega)
        clear he HX HJ
        go_wp2
        go_round
        case rel => exact ⟨i + 1, by omega, by go_num, HJ1.out⟩
        case measure => simp [intOf]; omega
    · obtain rfl : i = n.ps.length := by omega
      have HE : Hid (R = none) := HNO.out HJ.out
      clear HJ HHIT HNO HN
      go_wp2
      go_ret2
      exact ⟨by rw [HE.out]; rfl, HB.out⟩
end Go.Proofs.YtfcclppgjfkfoaaDoor
