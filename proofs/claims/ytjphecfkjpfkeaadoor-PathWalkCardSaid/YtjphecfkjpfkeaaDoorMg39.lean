/- What package path's Text and Number return, for any tree that is read, if Parts and package value keep their contracts. Conditions: paths of at most 10^6 bytes; values of at most 4 * 10^9 bytes (2^40 for a number). -/
import Derived.Test.YtjphecfkjpfkeaaDoorMg38
import Derived.Test.YtjphecfkjpfkeaaDoorMg15
namespace Go.Proofs.YtjphecfkjpfkeaaDoor
open Go.RowKit

/-- What AsText and AsNumber must give. -/
def AsTextOk : Prop := ∀ (v : ByteArray) (w : World), v.size ≤ 4000000000 → Calls Tryd.prog 34 #[.string v] w fun e w' => e = .returned (.tuple #[.string (asT1 v.data.toList).1, .bool (asT1 v.data.toList).2]) ∧ Below w.heap.size w w'
def AsNumberOk : Prop := ∀ (v : ByteArray) (w : World), v.size ≤ 1099511627776 → Calls Tryd.prog 37 #[.string v] w fun e w' => e = .returned (.tuple #[.int .i64 (asN1 v.data.toList), .bool (decide (v.size = 4))]) ∧ Below w.heap.size w w'
set_option maxHeartbeats 1600000 in
set_option maxRecDepth 100000 in
theorem text_any (M0 : AsTextOk) (Q0 : PartsOk) (G : Nat → Prop) (n : ND) (v2 v3 : Value) (p nm : ByteArray) (w : World) (hp : p.size ≤ 1000000) (hN : NdAt w G n v2 v3) (hv : ∀ v, atR n p.data.toList nm = some v → v.size ≤ 4000000000) :
    Calls Tryd.prog 21 #[.agg #[.string n.nm, v2, v3], .string p, .string nm] w fun e w' => e = .returned (.tuple #[.string (textR n p.data.toList nm).1, .bool (textR n p.data.toList nm).2]) ∧ Below w.heap.size w w' := by
  obtain ⟨A, K, pc, kc, rfl, rfl, hpc, hpm, hkc, hkm⟩ := nd_shape hN
  obtain ⟨W1, hW1⟩ : ∃ W1, W1 = w.alloc (.cells #[.string n.nm, .slice A n.ps.length pc, .slice K n.ks.length kc] 34) := ⟨_, rfl⟩
  obtain ⟨g3, hg3⟩ : ∃ g3, g3 = w.heap.size := ⟨_, rfl⟩
  have hB1 : Below w.heap.size w W1 := by rw [hW1]; exact (Below.refl _ _).alloc (Nat.le_refl _) _
  have HA3 : Hid (Arr W1 g3 34 #[.string n.nm, .slice A n.ps.length pc, .slice K n.ks.length kc]) := by unfold Hid; rw [hW1, hg3]; exact Arr.new w _ _
  have HAT : Hid (∀ v, atR n p.data.toList nm = some v → textR n p.data.toList nm = asT1 v.data.toList) := fun k h => by unfold textR; rw [h]
  have HAN : Hid (atR n p.data.toList nm = none → textR n p.data.toList nm = (⟨#[]⟩, false)) := fun h => by unfold textR; rw [h]
  have HF := Lib.hid (at_any Q0 G n _ _ p nm W1 hp (nd_below hN hB1))
  have HB := Lib.hid hB1
  generalize textR n p.data.toList nm = R at *
  obtain ⟨o, ho⟩ : ∃ o, o = atR n p.data.toList nm := ⟨_, rfl⟩
  rw [← ho] at HAT HAN HF hv
  obtain ⟨y, hy⟩ : ∃ y, y = o.getD ⟨#[]⟩ := ⟨_, rfl⟩
  obtain ⟨bo, hbo⟩ : ∃ bo, bo = o.isSome := ⟨_, rfl⟩
  rw [← hy, ← hbo] at HF
  have HY := Lib.hid hy
  have HBO := Lib.hid hbo
  clear Q0 hN hB1 hpc hpm hkc hkm ho hy hbo
  go_enter Tryd.func21, Tryd.ntmps21
  go_upto_region 1 with fail
  change Code.wp _ _ _ _ (w.alloc (.cells #[.string n.nm, .slice A n.ps.length pc, .slice K n.ks.length kc] 34))
  rw [← hW1, ← hg3]
  clear hW1 hg3
  go_wp2_with (refine wpList_load_row rfl 34 (.tmp 3) rfl g3 rfl _ _ _ _ HA3.out Tryd.underlying34 rfl (infoNd _ _ _) ?_)
  refine HF.out.mono ?_
  rintro e w2 ⟨rfl, hb⟩
  have HB2 := Lib.hid (HB.out.trans (hb.mono HB.out.size))
  clear hb HF HB
  cases o with
  | none =>
    obtain rfl : bo = false := HBO.out
    have HE : Hid (R = (⟨#[]⟩, false)) := HAN.out rfl
    clear M0 HAN HAT HY HBO hv
    go_wp2_with fail
    go_ret2
    exact ⟨by rw [HE.out]; rfl, HB2.out⟩
  | some k =>
    obtain rfl : bo = true := HBO.out
    obtain rfl : y = k := HY.out
    have HE : Hid (R = asT1 y.data.toList) := HAT.out _ rfl
    have HV := Lib.hid (M0 y w2 (hv _ rfl))
    clear M0 HAN HAT HY HBO hv
    go_wp2_with fail
    refine HV.out.mono ?_
    rintro e w3 ⟨rfl, hb⟩
    have HB3 := Lib.hid (HB2.out.trans (hb.mono HB2.out.size))
    clear hb HV
    go_wp2
    go_ret2
    exact ⟨by rw [HE.out]; rfl, HB3.out⟩

set_option maxHeartbeats 1600000 in
set_option maxRecDepth 100000 in
theorem number_any (M0 : AsNumberOk) (Q0 : PartsOk) (G : Nat → Prop) (n : ND) (v2 v3 : Value) (p nm : ByteArray) (w : World) (hp : p.size ≤ 1000000) (hN : NdAt w G n v2 v3) (hv : ∀ v, atR n p.data.toList nm = some v → v.size ≤ 1099511627776) :
    Calls Tryd.prog 23 #[.agg #[.string n.nm, v2, v3], .string p, .string nm] w fun e w' => e = .returned (.tuple #[.int .i64 (numR n p.data.toList nm).1, .bool (numR n p.data.toList nm).2]) ∧ Below w.heap.size w w' := by
  obtain ⟨A, K, pc, kc, rfl, rfl, hpc, hpm, hkc, hkm⟩ := nd_shape hN
  obtain ⟨W1, hW1⟩ : ∃ W1, W1 = w.alloc (.cells #[.string n.nm, .slice A n.ps.length pc, .slice K n.ks.length kc] 34) := ⟨_, rfl⟩
  obtain ⟨g3, hg3⟩ : ∃ g3, g3 = w.heap.size := ⟨_, rfl⟩
  have hB1 : Below w.heap.size w W1 := by rw [hW1]; exact (Below.refl _ _).alloc (Nat.le_refl _) _
  have HA3 : Hid (Arr W1 g3 34 #[.string n.nm, .slice A n.ps.length pc, .slice K n.ks.length kc]) := by unfold Hid; rw [hW1, hg3]; exact Arr.new w _ _
  have HAT : Hid (∀ v, atR n p.data.toList nm = some v → numR n p.data.toList nm = (asN1 v.data.toList, decide (v.size = 4))) := fun k h => by unfold numR; rw [h]
  have HAN : Hid (atR n p.data.toList nm = none → numR n p.data.toList nm = (0, false)) := fun h => by unfold numR; rw [h]
  have HF := Lib.hid (at_any Q0 G n _ _ p nm W1 hp (nd_below hN hB1))
  have HB := Lib.hid hB1
  generalize numR n p.data.toList nm = R at *
  obtain ⟨o, ho⟩ : ∃ o, o = atR n p.data.toList nm := ⟨_, rfl⟩
  rw [← ho] at HAT HAN HF hv
  obtain ⟨y, hy⟩ : ∃ y, y = o.getD ⟨#[]⟩ := ⟨_, rfl⟩
  obtain ⟨bo, hbo⟩ : ∃ bo, bo = o.isSome := ⟨_, rfl⟩
  rw [← hy, ← hbo] at HF
  have HY := Lib.hid hy
  have HBO := Lib.hid hbo
  clear Q0 hN hB1 hpc hpm hkc hkm ho hy hbo
  go_enter Tryd.func23, Tryd.ntmps23
  go_upto_region 1 with fail
  change Code.wp _ _ _ _ (w.alloc (.cells #[.string n.nm, .slice A n.ps.length pc, .slice K n.ks.length kc] 34))
  rw [← hW1, ← hg3]
  clear hW1 hg3
  go_wp2_with (refine wpList_load_row rfl 34 (.tmp 3) rfl g3 rfl _ _ _ _ HA3.out Tryd.underlying34 rfl (infoNd _ _ _) ?_)
  refine HF.out.mono ?_
  rintro e w2 ⟨rfl, hb⟩
  have HB2 := Lib.hid (HB.out.trans (hb.mono HB.out.size))
  clear hb HF HB
  cases o with
  | none =>
    obtain rfl : bo = false := HBO.out
    have HE : Hid (R = (0, false)) := HAN.out rfl
    clear M0 HAN HAT HY HBO hv
    go_wp2_with fail
    go_ret2
    exact ⟨by rw [HE.out]; rfl, HB2.out⟩
  | some k =>
    obtain rfl : bo = true := HBO.out
    obtain rfl : y = k := HY.out
    have HE : Hid (R = (asN1 y.data.toList, decide (y.size = 4))) := HAT.out _ rfl
    have HV := Lib.hid (M0 y w2 (hv _ rfl))
    clear M0 HAN HAT HY HBO hv
    go_wp2_with fail
    refine HV.out.mono ?_
    rintro e w3 ⟨rfl, hb⟩
    have HB3 := Lib.hid (HB2.out.trans (hb.mono HB2.out.size))
    clear hb HV
    go_wp2
    go_ret2
    exact ⟨by rw [HE.out]; rfl, HB3.out⟩

end Go.Proofs.YtjphecfkjpfkeaaDoor
