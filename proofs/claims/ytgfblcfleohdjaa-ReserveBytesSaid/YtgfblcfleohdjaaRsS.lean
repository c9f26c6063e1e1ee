/- slices.SortFunc of spans that lie in a slice of the call's own, and inOrder of package reserve: the spans that may be and have a byte, by where they begin. Condition: at most 1000 spans. -/
import Derived.Test.YtgfblcfleohdjaaSpG
import Derived.Test.YtgfblcfleohdjaaRsF
import Derived.Test.YtgfblcfleohdjaaShelfSo
import Derived.Shelf.SlSortCmp.NoneTotal
import Derived.Shelf.SlicesG.Cmp
import Derived.Shelf.Abstract
namespace Go.Proofs.Ytgfblcfleohdjaa
open Go.RowKit

instance : Inhabited SP := ⟨sp0⟩
def encSp (x : SP) : List Value := [.int .i64 x.p, .int .i64 x.n]
/-- By where they begin. -/
def RisL (S : List SP) : Prop := ∀ i j, i < j → j < S.length → (S.getD i sp0).p ≤ (S.getD j sp0).p

theorem ltP (x y : SP) : ltOf (fun x y : SP => Lib.compareInt x.p y.p) x y = decide (x.p < y.p) := by
  unfold ltOf Lib.compareInt
  by_cases h1 : x.p < y.p
  · simp [h1]
  · by_cases h2 : y.p < x.p <;> simp [h1, h2]
theorem swoP : Go.Sort.SWO (ltOf fun x y : SP => Lib.compareInt x.p y.p) where
  irrefl x := by rw [ltP]; simp
  trans x y z h1 h2 := by rw [ltP] at *; simp at *; omega
  ntrans x y z h1 h2 := by rw [ltP] at *; simp at *; omega

set_option maxHeartbeats 1000000 in
theorem order2_any (x y : SP) (W : World) : Calls Try.prog 33 #[.agg #[.int .i64 x.p, .int .i64 x.n], .agg #[.int .i64 y.p, .int .i64 y.n]] W fun e w' => e = .returned (.int .i64 (Lib.compareInt x.p y.p)) ∧ ∃ q os', w' = Go.Sort.grow (W.drewN q) os' := by
  have hcon := fun W' => AnyG.cmp_Compare_int Try.cmpInt x.p y.p W'
  change ∀ W', Calls Try.prog 34 _ _ _ at hcon
  generalize Lib.compareInt x.p y.p = r at hcon ⊢
  go_enter Try.func33, Try.ntmps33
  go_wp2_with (go_at_call 34; refine (hcon _).mono ?_; rintro e w' ⟨rfl, rfl⟩)
  go_ret
  exact ⟨rfl, 0, _, by rw [Go.Sort.alloc_eq_grow, Go.Sort.alloc_eq_grow, Go.Sort.grow_grow]; rfl⟩
theorem order2_lays (blk off size : Nat) (w : World) : CmpLays Try.prog 33 #[] encSp 2 (fun x y : SP => Lib.compareInt x.p y.p) blk off size w :=
  fun _ _ _ _ x y => order2_any x y _

theorem getD_arr {d : Array SP} {i : Nat} (h : i < d.size) : d.toList.getD i sp0 = d[i]! := by
  rw [List.getD_eq_getElem?_getD, List.getElem?_eq_getElem (by simpa using h), getElem!_pos d i h]; simp
theorem holds_own {w : World} {B g n cap : Nat} {R : List SP} (h : w.ownsRow B 24 2 (.slice (some ⟨g, 0, none⟩) n cap) n (spD R)) (hn : n = R.length) : Go.Sort.HoldsK encSp 2 w g 0 R.toArray := by
  subst hn
  intro j hj
  rw [Go.Sort.size_flatK] at hj
  have hj : j < R.length * 2 := by simpa using hj
  refine ⟨?_, by rw [Nat.zero_add]; exact h.frozenAt _⟩
  rw [Nat.zero_add, h.cellAt j hj, Go.Sort.get_flatK _ _ _ _ (by simpa using hj)]
  have hk : j / 2 < R.length := by omega
  obtain ⟨h1, h2⟩ := spD_get R hk
  have e := getD_arr (d := R.toArray) (i := j / 2) (by simpa using hk)
  rw [← e]
  rcases Nat.mod_two_eq_zero_or_one j with hm | hm
  · rw [show j / 2 * 2 = j by omega] at h1
    rw [h1, hm]; rfl
  · rw [show j / 2 * 2 + 1 = j by omega] at h2
    rw [h2, hm]; rfl
theorem rd_holds {w : World} {g : Nat} {d : Array SP} (h : Go.Sort.HoldsK encSp 2 w g 0 d) : RdSp w (some ⟨g, 0, none⟩) d.toList := .inr ⟨g, 0, rfl, fun k hk => by
  have hk : k < d.size := by simpa using hk
  have h1 := (h.cell hk (c := 0) (by decide)).1
  have h2 := (h.cell hk (c := 1) (by decide)).1
  rw [getD_arr hk]
  exact ⟨h1, h2⟩⟩
theorem below_sorted (w : World) (B g n : Nat) (d : Array SP) (os : Array Obj) (hB : B ≤ g) (hw : B ≤ w.heap.size) : Below B w (sortWorldK encSp 2 w g 0 n d os) := by
  refine ⟨rfl, rfl, rfl, size_sortWorldK_c encSp 2 w g 0 n d os, fun k hk => ?_⟩
  show ((w.heap.modify g _) ++ os)[k]? = w.heap[k]?
  rw [Array.getElem?_append_left (by rw [Array.size_modify]; omega), Array.getElem?_modify, if_neg (by omega)]

set_option maxHeartbeats 1600000 in
set_option maxRecDepth 100000 in
theorem sortO_any (B : Nat) (A : Option Addr) (cap : Nat) (F : List SP) (w : World) (hown : w.ownsRow B 24 2 (.slice A F.length cap) F.length (spD F)) (hB : B ≤ w.heap.size) (hl : F.length ≤ 1000) :
    Calls Try.prog 32 #[.slice A F.length cap, .func (.func 33) #[] #[]] w fun e w' => e = .returned (.tuple #[]) ∧ ∃ S : List SP, S.length = F.length ∧ RdSp w' A S ∧ S.Perm F ∧ RisL S ∧ Below B w w' := by
  rcases Nat.eq_zero_or_pos F.length with hz | hpos
  · have hF : F = [] := List.length_eq_zero_iff.1 hz
    subst hF
    have h := AnyF.slices_SortFunc_none Try.sortSp A cap (.func (.func 33) #[] #[]) w
    change Calls Try.prog 32 _ _ _ at h
    refine h.mono ?_
    rintro e w' ⟨rfl, rfl⟩
    exact ⟨rfl, [], rfl, .inl rfl, List.Perm.refl _, fun i j _ h => absurd h (Nat.not_lt_zero _), Below.refl _ _⟩
  · obtain ⟨g, rfl, hg⟩ : ∃ g, A = some ⟨g, 0, none⟩ ∧ B ≤ g := by
      rcases hown.2 with ⟨_, hz⟩ | ⟨g0, cap', cur, h1, hb0, _, hnc, _⟩
      · omega
      · injection h1 with h1 _ h1c
        exact ⟨g0, h1, hb0⟩
    have hH := holds_own hown rfl
    have hgl := (hown.lt g rfl).2
    have eg : ∀ args w, (callFunc 33 args).run Try.prog w = .ok (.enter 33 args) w := enters_of Try.func33 (by kernel_rfl) rfl
    have hsz : F.toArray.size = F.length := by simp
    have h := AnyQ.slices_SortFunc Try.sortSp 2 Try.isAgg24 Try.sizeOf24 encSp (fun _ => rfl) (fun x v hv => by simp [encSp] at hv; rcases hv with rfl | rfl <;> rfl) (fun x y => Lib.compareInt x.p y.p) swoP 33 #[] g 0 cap F.toArray w eg (order2_lays g 0 _ w) hH hgl (by rw [hsz]; omega)
    change Calls Try.prog 32 _ _ _ at h
    rw [hsz] at h
    refine h.mono ?_
    rintro e w' ⟨rfl, d', n, os, hp, hs, rfl⟩
    have hd : d'.size = F.length := by rw [hp.1, hsz]
    refine ⟨rfl, d'.toList, by simpa using hd, rd_holds (holdsK_sortWorldK_c encSp 2 w g 0 F.toArray d' n os hH hgl hp.1), ?_, fun i j hij hj => ?_, below_sorted w B g n d' os hg hB⟩
    · have := hp.2.2
      rw [← hd] at this
      have h2 : d'.toList.Perm (F.take d'.size) := by simpa using this
      rwa [hd, List.take_length] at h2
    · have hj : j < d'.size := by simpa using hj
      have := hs i j (Nat.zero_le _) hij (by rw [← hd]; exact hj)
      rw [ltP] at this
      rw [getD_arr hj, getD_arr (by omega)]
      simpa using this

set_option maxHeartbeats 1600000 in
set_option maxRecDepth 100000 in
theorem inOrder_any (A : Option Addr) (cap : Nat) (l : List SP) (w : World) (hr : RdSp w A l) (hl : l.length ≤ 1000) :
    Calls Try.prog 27 #[.slice A l.length cap] w fun e w' => ∃ B c S, e = .returned (.slice B S.length c) ∧ RdSp w' B S ∧ S.Perm (l.filter fulS) ∧ RisL S ∧ Below w.heap.size w w' := by
  have HC := Lib.hid (cloneO_any A cap l w hr hl)
  have eg : ∀ args w, (callFunc 31 args).run Try.prog w = .ok (.enter 31 args) w := enters_of Try.func31 (by kernel_rfl) rfl
  have HD : Hid (∀ v W, W.ownsRow w.heap.size 24 2 v l.length (spD l) → w.heap.size ≤ W.heap.size → Calls Try.prog 30 #[v, .func (.func 31) #[] #[]] W fun e w' => ∃ v', e = .returned v' ∧ w'.ownsRow w.heap.size 24 2 v' (l.filter fulS).length (spD (l.filter fulS)) ∧ Below w.heap.size W w') := fun v W h hs => by
    have := deleteF_any 31 #[] eg (fun y => !fulS y) w.heap.size v l W h hs hl (fun y W' => order1_any y W')
    simpa only [Bool.not_not] using this
  have hfl : (l.filter fulS).length ≤ 1000 := Nat.le_trans (List.length_filter_le _ _) hl
  generalize l.filter fulS = F at *
  clear hr eg
  go_enter Try.func27, Try.ntmps27
  go_wp2_with fail
  refine HC.out.mono ?_
  rintro e w1 ⟨v1, rfl, ho1, hb1⟩
  have HB1 := Lib.hid hb1
  have HO1 := Lib.hid ho1
  clear hb1 ho1 HC
  go_wp2_with fail
  refine (HD.out v1 w1 HO1.out HB1.out.size).mono ?_
  rintro e w2 ⟨v2, rfl, ho2, hb2⟩
  obtain ⟨A2, c2, rfl, _, _⟩ := own_spD ho2
  have HB2 : Hid (Below w.heap.size w w2) := HB1.out.trans hb2
  have HSO := Lib.hid (sortO_any w.heap.size A2 c2 F w2 ho2 HB2.out.size hfl)
  clear hb2 ho2 HD HO1 HB1
  go_wp2_with fail
  refine HSO.out.mono ?_
  rintro e w3 ⟨rfl, S, hs1, hs2, hs3, hs4, hb3⟩
  have HB3 : Hid (Below w.heap.size w w3) := HB2.out.trans hb3
  have HS1 := Lib.hid hs1
  have HS2 := Lib.hid hs2
  clear hs1 hs2 hb3 HSO HB2
  go_wp2
  go_ret
  exact ⟨A2, c2, S, by rw [HS1.out]; rfl, HS2.out, hs3, hs4, HB3.out⟩
end Go.Proofs.Ytgfblcfleohdjaa
