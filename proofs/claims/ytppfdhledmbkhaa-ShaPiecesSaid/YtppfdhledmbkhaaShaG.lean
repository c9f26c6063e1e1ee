/- What (*strings.Builder).Write does with bytes, what sha.text returns: conditions: fewer than 2^40 bytes, 32-bit numbers. -/
import Derived.Test.YtppfdhledmbkhaaShaF
import Derived.Test.YtppfdhledmbkhaaShaE
import Derived.Test.YtppfdhledmbkhaaShelf
namespace Go.Proofs.Ytppfdhledmbkhaa
open Go.RowKit

theorem copyCheck_keeps (B b g : Nat) (bs : List Value) (w : World) (h : Lib.IsBuilder 52 5 B b bs w) (hne : g ≠ b) :
    Calls Try.prog 36 #[.pointer (some ⟨b, 0, none⟩)] w fun e w' => e = .returned (.tuple #[]) ∧ Lib.BuilderAt 52 5 B b (.pointer (some ⟨b, 0, none⟩)) bs w' ∧ Below B w w' ∧ ∀ j, w'.cell? ⟨g, j, none⟩ = w.cell? ⟨g, j, none⟩ := by
  rcases h with h | h
  · refine (Any.Builder_copyCheck_fresh Try.lays240 Try.Builder_X72_240 b w h.cell0 h.shape h.frozen0).mono ?_
    rintro e w' ⟨rfl, rfl⟩
    exact ⟨rfl, h.used _, (Below.refl B w).setCell (p := ⟨b, 0, none⟩) h.1 _, fun j => World.cell?_setCell_other _ _ _ _ (fun he => hne (congrArg Addr.block he).symm)⟩
  · refine (Any.Builder_copyCheck_used Try.lays240 Try.Builder_X72_240 b w h.cell0).mono ?_
    rintro e w' ⟨rfl, rfl⟩
    exact ⟨rfl, h, Below.refl B _, fun _ => rfl⟩

set_option maxHeartbeats 1600000 in
set_option maxRecDepth 100000 in
theorem builder_write (B b g m : Nat) (bs xs : List Value) (w : World) (h : Lib.IsBuilder 52 5 B b bs w) (hne : g ≠ b) (hsrc : ∀ j u, xs[j]? = some u → w.cell? ⟨g, j, none⟩ = some u) (hxl : xs.length = m)
    (hone : ∀ u ∈ xs, u.oneCell' = true) (hlen : bs.length + m ≤ 1099511627776) (hBw : B ≤ w.heap.size) :
    Calls Try.prog 24 #[.pointer (some ⟨b, 0, none⟩), .slice (some ⟨g, 0, none⟩) m m] w fun e w' => e = .returned (.tuple #[.int .i64 m, .nilIface]) ∧ Lib.BuilderAt 52 5 B b (.pointer (some ⟨b, 0, none⟩)) (bs ++ xs) w' ∧ Below B w w' := by
  obtain ⟨e0, ez, i, hi, hz0, hz1, hz2⟩ := elem_byte.out
  have HC := Lib.hid (copyCheck_keeps B b g bs w h hne)
  have HX := Lib.hid hxl
  have HS := Lib.hid hsrc
  have HO := Lib.hid hone
  clear h hsrc hone hxl
  go_enter Try.func24, Try.ntmps24
  go_wp2_with fail
  refine HC.out.mono ?_
  rintro e w1 ⟨rfl, h1, hb1, hk⟩
  have HK := Lib.hid hk
  clear hk HC
  obtain ⟨hB, v, hbk, hown, hnb⟩ := h1
  have c0 : w1.cell? ⟨b, 0, none⟩ = some (.pointer (some ⟨b, 0, none⟩)) := by rw [Lib.cell_of_heap hbk]; rfl
  have c1 : w1.cell? ⟨b, 1, none⟩ = some v := by rw [Lib.cell_of_heap hbk]; rfl
  have HOW := Lib.hid hown
  have HBK := Lib.hid hbk
  have hz : B ≤ w1.heap.size := by have := hb1.size; omega
  clear hown hbk
  have ns : ∀ j u, xs[j]? = some u → w1.cell? ((⟨g, 0, none⟩ : Addr).add j) = some u := fun j u hj => by
    have e : (⟨g, 0, none⟩ : Addr).add j = ⟨g, j, none⟩ := by unfold Addr.add; split <;> simp_all
    rw [e, HK.out, HS.out j u hj]
  have NS := Lib.hid ns
  clear ns
  go_wp2_with (at_builtin; go_must (refine wpList_append_own _ rfl _ _ 37 rfl B 5 i (.int .u8 0) 1 1 e0 hi hz0 hz1 hz2 ez (by decide) _ _ _ rfl HOW.out ⟨g, 0, none⟩ m m xs rfl (by rw [HX.out, Nat.mul_one]) NS.out HO.out (by unfold maxLen; omega) (by omega) hz ?_))
  intro v' w2 hown' hgrow _
  have hlt : b < w1.heap.size := (Array.getElem?_eq_some_iff.1 HBK.out).1
  have hb2 : w2.heap[b]? = some (.cells #[.pointer (some ⟨b, 0, none⟩), v] 52 (0, 0)) := by
    rw [hgrow.block b hlt (fun e => hnb e.symm)]
    exact HBK.out
  have d0 : w2.cell? ⟨b, 0, none⟩ = some (.pointer (some ⟨b, 0, none⟩)) := by rw [Lib.cell_of_heap hb2]; rfl
  have d1 : w2.cell? ⟨b, 1, none⟩ = some v := by rw [Lib.cell_of_heap hb2]; rfl
  have f1 : w2.frozen? ⟨b, 1, none⟩ = false := Lib.frozen_of_heap hb2 1
  have HB2 := Lib.hid hb2
  have HG := Lib.hid hgrow
  have HOW2 := Lib.hid hown'
  obtain ⟨ao, n', cap, rfl⟩ : ∃ ao n' cap, v' = .slice ao n' cap := by
    rcases hown'.2 with ⟨hv, _⟩ | ⟨g, cap, cur, hv, _⟩
    · exact ⟨_, _, _, hv⟩
    · exact ⟨_, _, _, hv⟩
  clear hb2 hgrow hown' c0 c1
  go_wp2
  go_ret2
  refine ⟨rfl, ?_, ?_⟩
  · refine Lib.BuilderAt.put hB HB2.out (bs' := bs ++ xs) ?_ (by decide)
    have := HOW2.out
    rw [List.length_append, HX.out]
    exact this
  · exact (hb1.grown HG.out (by omega) (fun k hk => (HOW.out.lt k hk).1)).setCell (p := ⟨b, 1, none⟩) hB _
theorem four_src (w : World) (y1 y2 y3 y4 : UInt8) : ∀ j u, (Lib.byteCells [y1, y2, y3, y4])[j]? = some u → (w.alloc (.cells #[.int .u8 (y1.toNat : Int), .int .u8 (y2.toNat : Int), .int .u8 (y3.toNat : Int), .int .u8 (y4.toNat : Int)] 5)).cell? ⟨w.heap.size, j, none⟩ = some u := by
  intro j u hj
  rw [World.cell?_alloc_mark, ← hj]
  simp [Lib.byteCells]
theorem builder_alloc {B b : Nat} {bs : List Value} {w : World} (h : Lib.IsBuilder 52 5 B b bs w) (o : Obj) : Lib.IsBuilder 52 5 B b bs (w.alloc o) := by
  have H : ∀ p, Lib.BuilderAt 52 5 B b p bs w → Lib.BuilderAt 52 5 B b p bs (w.alloc o) := by
    rintro p ⟨hB, v, hb, ho, hn⟩
    exact ⟨hB, v, Arr.alloc hb o, ho.alloc o, hn⟩
  exact h.elim (fun x => .inl (H _ x)) (fun x => .inr (H _ x))
theorem builder_lt {B b : Nat} {bs : List Value} {w : World} (h : Lib.IsBuilder 52 5 B b bs w) : b < w.heap.size := by
  rcases h with ⟨_, v, hb, _⟩ | ⟨_, v, hb, _⟩
  · exact (Array.getElem?_eq_some_iff.1 hb).1
  · exact (Array.getElem?_eq_some_iff.1 hb).1

set_option maxHeartbeats 1600000 in
set_option maxRecDepth 100000 in
theorem text_any (H : List Nat) (w : World) (hH : H.length = 8) :
    Calls Try.prog 18 #[.agg (nums .u32 H)] w fun e w' => e = .returned (.string ⟨(txt H).toArray⟩) ∧ Below w.heap.size w w' := by
  have HI := Lib.hid (info8 H hH)
  have HHL := Lib.hid hH
  clear hH
  have hI0 := Lib.fresh_isBuilder 52 5 (w.alloc (.cells (nums .u32 H) 30))
  rw [show (w.alloc (.cells (nums .u32 H) 30)).heap.size = w.heap.size + 1 from Array.size_push _] at hI0
  have HI0 := Lib.hid hI0
  clear hI0
  go_enter Try.func18, Try.ntmps18
  go_wp2_with (refine wpList_load_row rfl 30 (.tmp 1) rfl w.heap.size rfl _ _ _ _ ((Arr.new _ _ _).alloc _) Try.underlying30 rfl HI.out ?_)
  go_loopw [7] (fun i wr => ∃ k : Nat, k ≤ 8 ∧ i = .int .i64 k ∧ Lib.IsBuilder 52 5 (w.heap.size + 1) (w.heap.size + 1) (Lib.byteCells (txt (H.take k))) wr ∧ Below w.heap.size w wr) (fun i _ => 8 - (intOf i).toNat)
  case atStart => exact ⟨0, Nat.zero_le _, rfl, HI0.out, ((Below.refl _ _).alloc (Nat.le_refl _) _).alloc (by simp) _⟩
  case round =>
    clear HI0
    obtain ⟨k, hk, rfl, hI, hb⟩ := hrel
    have HB := Lib.hid hI
    clear hI
    have hbl := builder_lt HB.out
    by_cases hl : k < 8
    · have HT := Lib.hid (txt_take H k (by rw [HHL.out]; exact hl))
      have kq := fun W => index_nums 30 29 8 .u32 H k Try.underlying30 Try.sizeOf29 Try.isAgg29 HHL.out hl W
      generalize H.getD k 0 = x at *
      obtain ⟨v1, v2, v3, v4⟩ := b4_cast x
      generalize UInt8.ofNat (x / 16777216) = y1 at *
      generalize UInt8.ofNat (x / 65536) = y2 at *
      generalize UInt8.ofNat (x / 256) = y3 at *
      generalize UInt8.ofNat x = y4 at *
      have hc0 : (0 : Int) ≤ k := by omega
      have hc8 : (k : Int) < 8 := by omega
      have HE : Hid (Lib.byteCells (txt (H.take (k + 1))) = Lib.byteCells (txt (H.take k)) ++ Lib.byteCells [y1, y2, y3, y4]) := by unfold Hid; rw [HT.out]; simp [Lib.byteCells]
      have HTL : Hid ((Lib.byteCells (txt (H.take k))).length = 4 * k) := by
        unfold Hid; rw [Lib.byteCells_length]; unfold txt
        have : ∀ l : List Nat, (l.flatMap b4).length = 4 * l.length := by
          intro l
          induction l with
          | nil => rfl
          | cons a l ih => rw [List.flatMap_cons, List.length_append, ih]; simp [b4]; omega
        rw [this, List.length_take, HHL.out]; omega
      have HW := Lib.hid (builder_write (w.heap.size + 1) (w.heap.size + 1) wr.heap.size 4 (Lib.byteCells (txt (H.take k))) (Lib.byteCells [y1, y2, y3, y4]) (wr.alloc (.cells #[.int .u8 (y1.toNat : Int), .int .u8 (y2.toNat : Int), .int .u8 (y3.toNat : Int), .int .u8 (y4.toNat : Int)] 5)) (builder_alloc HB.out _) (by omega) (four_src wr y1 y2 y3 y4) rfl (by intro u hu; simp [Lib.byteCells] at hu; rcases hu with rfl | rfl | rfl | rfl <;> rfl) (by rw [HTL.out]; omega) (by simp; omega))
      go_wp2_with fail
      refine HW.out.mono ?_
      rintro e w2 ⟨rfl, hB2, hb2⟩
      have HB2 := Lib.hid hB2
      have hb3 : Below w.heap.size w w2 := (hb.alloc (by omega) _).trans (hb2.mono (by omega))
      clear hB2 hb2 kq v1 v2 v3 v4
      go_wp2
      go_roundw
      case rel => exact ⟨k + 1, by omega, by go_num, .inr (by rw [HE.out]; exact HB2.out), hb3⟩
      case measure => simp [intOf]; omega
    · obtain rfl : k = 8 := by omega
      have HTT : Hid (H.take 8 = H) := List.take_of_length_le (by rw [HHL.out]; omega)
      rw [HTT.out] at HB
      go_wp2_with fail
      refine (Try.Builder_String_any (w.heap.size + 1) (w.heap.size + 1) _ _ HB.out (by omega)).mono ?_
      rintro e w2 ⟨rfl, hb2⟩
      go_wp2
      go_ret
      exact ⟨rfl, hb.trans (hb2.mono (by omega))⟩
end Go.Proofs.Ytppfdhledmbkhaa
