/- The document's at, Text and Number of layer 16. Conditions: a path of at most 2^30 bytes; a tree that is read; a value of at most 2^40 bytes. -/
import Derived.Test.YtjphecfkjpfkeaaDoorMg30
import Derived.Test.YtjphecfkjpfkeaaDoorMg15
import Derived.Test.YtjphecfkjpfkeaaDoorMg13
namespace Go.Proofs.YtjphecfkjpfkeaaDoor
open Go.RowKit

/-- The value of a property of the node of a path. -/
def atR (n : ND) (p : List UInt8) (nm : ByteArray) : Option ByteArray := match findR n p with
  | none => none
  | some k => valR k nm
def textR (n : ND) (p : List UInt8) (nm : ByteArray) : ByteArray × Bool := match atR n p nm with
  | none => (⟨#[]⟩, false)
  | some v => asT1 v.data.toList
def numR (n : ND) (p : List UInt8) (nm : ByteArray) : Int × Bool := match atR n p nm with
  | none => (0, false)
  | some v => (asN1 v.data.toList, decide (v.size = 4))
set_option maxHeartbeats 1600000 in
set_option maxRecDepth 100000 in
theorem rat_any (G : Nat → Prop) (n : ND) (v2 v3 : Value) (p nm : ByteArray) (w : World) (hp : p.size ≤ 1073741824) (hN : NdAt w G n v2 v3) :
    Calls Tryd.prog 35 #[.agg #[.string n.nm, v2, v3], .string p, .string nm] w fun e w' => e = .returned (.tuple #[.string ((atR n p.data.toList nm).getD ⟨#[]⟩), .bool (atR n p.data.toList nm).isSome]) ∧ Below w.heap.size w w' := by
  obtain ⟨A, K, pc, kc, rfl, rfl, hpc, hpm, hkc, hkm⟩ := nd_shape hN
  obtain ⟨W1, hW1⟩ : ∃ W1, W1 = w.alloc (.cells #[.string n.nm, .slice A n.ps.length pc, .slice K n.ks.length kc] 34) := ⟨_, rfl⟩
  obtain ⟨g3, hg3⟩ : ∃ g3, g3 = w.heap.size := ⟨_, rfl⟩
  have hB1 : Below w.heap.size w W1 := by rw [hW1]; exact (Below.refl _ _).alloc (Nat.le_refl _) _
  have HA3 : Hid (Arr W1 g3 34 #[.string n.nm, .slice A n.ps.length pc, .slice K n.ks.length kc]) := by unfold Hid; rw [hW1, hg3]; exact Arr.new w _ _
  have HAT : Hid (∀ k, findR n p.data.toList = some k → atR n p.data.toList nm = valR k nm) := fun k h => by unfold atR; rw [h]
  have HAN : Hid (findR n p.data.toList = none → atR n p.data.toList nm = none) := fun h => by unfold atR; rw [h]
  have HF := Lib.hid (rfind_any G n _ _ p W1 hp (nd_below hN hB1))
  have HB := Lib.hid hB1
  generalize atR n p.data.toList nm = R at *
  obtain ⟨o, ho⟩ : ∃ o, o = findR n p.data.toList := ⟨_, rfl⟩
  rw [← ho] at HAT HAN HF
  obtain ⟨y, hy⟩ : ∃ y, y = orN o := ⟨_, rfl⟩
  obtain ⟨bo, hbo⟩ : ∃ bo, bo = o.isSome := ⟨_, rfl⟩
  rw [← hy, ← hbo] at HF
  have HY := Lib.hid hy
  have HBO := Lib.hid hbo
  clear hN hB1 hpc hpm hkc hkm ho hy hbo
  go_enter Tryd.func35, Tryd.ntmps35
  go_upto_region 1 with fail
  change Code.wp _ _ _ _ (w.alloc (.cells #[.string n.nm, .slice A n.ps.length pc, .slice K n.ks.length kc] 34))
  rw [← hW1, ← hg3]
  clear hW1 hg3
  go_wp2_with (refine wpList_load_row rfl 34 (.tmp 3) rfl g3 rfl _ _ _ _ HA3.out Tryd.underlying34 rfl (infoNd _ _ _) ?_)
  refine HF.out.mono ?_
  rintro e w2 ⟨u2, u3, rfl, hk, hb⟩
  obtain ⟨ua, ub, uc, ud, rfl, rfl, _⟩ := nd_shape hk
  have HA8 : Hid (Arr (w2.alloc (.cells #[.string y.nm, .slice ua y.ps.length uc, .slice ub y.ks.length ud] 34)) w2.heap.size 34 #[.string y.nm, .slice ua y.ps.length uc, .slice ub y.ks.length ud]) := Arr.new w2 _ _
  have h2 : Below w2.heap.size w2 (w2.alloc (.cells #[.string y.nm, .slice ua y.ps.length uc, .slice ub y.ks.length ud] 34)) := (Below.refl _ _).alloc (Nat.le_refl _) _
  have HK := Lib.hid (nd_below hk h2)
  have hB2 := HB.out.trans (hb.mono HB.out.size)
  have HB2 := Lib.hid (hB2.trans (h2.mono hB2.size))
  clear hk hb h2 hB2 HF HB
  go_upto_region 2 with fail
  generalize (w2.alloc (.cells #[.string y.nm, .slice ua y.ps.length uc, .slice ub y.ks.length ud] 34)) = W2 at *
  generalize w2.heap.size = g8 at *
  cases o with
  | none =>
    obtain rfl : bo = false := HBO.out
    have HE : Hid (R = none) := HAN.out rfl
    clear HAN HAT HY HBO
    go_wp2_with fail
    go_ret2
    exact ⟨by rw [HE.out]; rfl, HB2.out⟩
  | some k =>
    obtain rfl : bo = true := HBO.out
    obtain rfl : y = k := HY.out
    have HE : Hid (R = valR y nm) := HAT.out _ rfl
    have HV := Lib.hid (rvalue_any G y _ _ nm W2 HK.out)
    clear HAN HAT HY HBO
    go_wp2_with (refine wpList_load_row rfl 34 (.tmp 8) rfl g8 rfl _ _ _ _ HA8.out Tryd.underlying34 rfl (infoNd _ _ _) ?_)
    refine HV.out.mono ?_
    rintro e w3 ⟨rfl, hb⟩
    have HB3 := Lib.hid (HB2.out.trans (hb.mono HB2.out.size))
    clear hb HV
    go_wp2
    go_ret2
    exact ⟨by rw [HE.out]; rfl, HB3.out⟩

set_option maxHeartbeats 1600000 in
set_option maxRecDepth 100000 in
theorem rtext16_any (G : Nat → Prop) (n : ND) (v2 v3 : Value) (p nm : ByteArray) (w : World) (hp : p.size ≤ 1073741824) (hN : NdAt w G n v2 v3) (hv : ∀ v, atR n p.data.toList nm = some v → v.size ≤ 1099511627776) :
    Calls Tryd.prog 22 #[.agg #[.string n.nm, v2, v3], .string p, .string nm] w fun e w' => e = .returned (.tuple #[.string (textR n p.data.toList nm).1, .bool (textR n p.data.toList nm).2]) ∧ Below w.heap.size w w' := by
  obtain ⟨A, K, pc, kc, rfl, rfl, hpc, hpm, hkc, hkm⟩ := nd_shape hN
  obtain ⟨W1, hW1⟩ : ∃ W1, W1 = w.alloc (.cells #[.string n.nm, .slice A n.ps.length pc, .slice K n.ks.length kc] 34) := ⟨_, rfl⟩
  obtain ⟨g3, hg3⟩ : ∃ g3, g3 = w.heap.size := ⟨_, rfl⟩
  have hB1 : Below w.heap.size w W1 := by rw [hW1]; exact (Below.refl _ _).alloc (Nat.le_refl _) _
  have HA3 : Hid (Arr W1 g3 34 #[.string n.nm, .slice A n.ps.length pc, .slice K n.ks.length kc]) := by unfold Hid; rw [hW1, hg3]; exact Arr.new w _ _
  have HAT : Hid (∀ v, atR n p.data.toList nm = some v → textR n p.data.toList nm = asT1 v.data.toList) := fun k h => by unfold textR; rw [h]
  have HAN : Hid (atR n p.data.toList nm = none → textR n p.data.toList nm = (⟨#[]⟩, false)) := fun h => by unfold textR; rw [h]
  have HF := Lib.hid (rat_any G n _ _ p nm W1 hp (nd_below hN hB1))
  have HB := Lib.hid hB1
  generalize textR n p.data.toList nm = R at *
  obtain ⟨o, ho⟩ : ∃ o, o = atR n p.data.toList nm := ⟨_, rfl⟩
  rw [← ho] at HAT HAN HF hv
  obtain ⟨y, hy⟩ : ∃ y, y = o.getD ⟨#[]⟩ := ⟨_, rfl⟩
  obtain ⟨bo, hbo⟩ : ∃ bo, bo = o.isSome := ⟨_, rfl⟩
  rw [← hy, ← hbo] at HF
  have HY := Lib.hid hy
  have HBO := Lib.hid hbo
  clear hN hB1 hpc hpm hkc hkm ho hy hbo
  go_enter Tryd.func22, Tryd.ntmps22
  go_upto_region 1 with fail
  change Code.wp _ _ _ _ (w.alloc (.cells #[.string n.nm, .slice A n.ps.length pc, .slice K n.ks.length kc] 34))
  rw [← hW1, ← hg3]
  clear hW1 hg3
  go_wp2_with (refine wpList_load_row rfl 34 (.tmp 3) rfl g3 rfl _ _ _ _ HA3.out Tryd.underlying34 rfl (infoNd _ _ _) ?_)
  refine HF.out.mono ?_
  rintro e w2 ⟨rfl, hb⟩
  have HB2 := Lib.hid (HB.out.trans (hb.mono HB.out.size))
  clear hb HF HB
  cases o with
  | none =>
    obtain rfl : bo = false := HBO.out
    have HE : Hid (R = (⟨#[]⟩, false)) := HAN.out rfl
    clear HAN HAT HY HBO hv
    go_wp2_with fail
    go_ret2
    exact ⟨by rw [HE.out]; rfl, HB2.out⟩
  | some k =>
    obtain rfl : bo = true := HBO.out
    obtain rfl : y = k := HY.out
    have HE : Hid (R = asT1 y.data.toList) := HAT.out _ rfl
    have HV := Lib.hid (rasText_any y w2 (hv _ rfl))
    clear HAN HAT HY HBO hv
    go_wp2_with fail
    refine HV.out.mono ?_
    rintro e w3 ⟨rfl, hb⟩
    have HB3 := Lib.hid (HB2.out.trans (hb.mono HB2.out.size))
    clear hb HV
    go_wp2
    go_ret2
    exact ⟨by rw [HE.out]; rfl, HB3.out⟩

set_option maxHeartbeats 1600000 in
set_option maxRecDepth 100000 in
theorem rnumber16_any (G : Nat → Prop) (n : ND) (v2 v3 : Value) (p nm : ByteArray) (w : World) (hp : p.size ≤ 1073741824) (hN : NdAt w G n v2 v3) (hv : ∀ v, atR n p.data.toList nm = some v → v.size ≤ 1099511627776) :
    Calls Tryd.prog 24 #[.agg #[.string n.nm, v2, v3], .string p, .string nm] w fun e w' => e = .returned (.tuple #[.int .i64 (numR n p.data.toList nm).1, .bool (numR n p.data.toList nm).2]) ∧ Below w.heap.size w w' := by
  obtain ⟨A, K, pc, kc, rfl, rfl, hpc, hpm, hkc, hkm⟩ := nd_shape hN
  obtain ⟨W1, hW1⟩ : ∃ W1, W1 = w.alloc (.cells #[.string n.nm, .slice A n.ps.length pc, .slice K n.ks.length kc] 34) := ⟨_, rfl⟩
  obtain ⟨g3, hg3⟩ : ∃ g3, g3 = w.heap.size := ⟨_, rfl⟩
  have hB1 : Below w.heap.size w W1 := by rw [hW1]; exact (Below.refl _ _).alloc (Nat.le_refl _) _
  have HA3 : Hid (Arr W1 g3 34 #[.string n.nm, .slice A n.ps.length pc, .slice K n.ks.length kc]) := by unfold Hid; rw [hW1, hg3]; exact Arr.new w _ _
  have HAT : Hid (∀ v, atR n p.data.toList nm = some v → numR n p.data.toList nm = (asN1 v.data.toList, decide (v.size = 4))) := fun k h => by unfold numR; rw [h]
  have HAN : Hid (atR n p.data.toList nm = none → numR n p.data.toList nm = (0, false)) := fun h => by unfold numR; rw [h]
  have HF := Lib.hid (rat_any G n _ _ p nm W1 hp (nd_below hN hB1))
  have HB := Lib.hid hB1
  generalize numR n p.data.toList nm = R at *
  obtain ⟨o, ho⟩ : ∃ o, o = atR n p.data.toList nm := ⟨_, rfl⟩
  rw [← ho] at HAT HAN HF hv
  obtain ⟨y, hy⟩ : ∃ y, y = o.getD ⟨#[]⟩ := ⟨_, rfl⟩
  obtain ⟨bo, hbo⟩ : ∃ bo, bo = o.isSome := ⟨_, rfl⟩
  rw [← hy, ← hbo] at HF
  have HY := Lib.hid hy
  have HBO := Lib.hid hbo
  clear hN hB1 hpc hpm hkc hkm ho hy hbo
  go_enter Tryd.func24, Tryd.ntmps24
  go_upto_region 1 with fail
  change Code.wp _ _ _ _ (w.alloc (.cells #[.string n.nm, .slice A n.ps.length pc, .slice K n.ks.length kc] 34))
  rw [← hW1, ← hg3]
  clear hW1 hg3
  go_wp2_with (refine wpList_load_row rfl 34 (.tmp 3) rfl g3 rfl _ _ _ _ HA3.out Tryd.underlying34 rfl (infoNd _ _ _) ?_)
  refine HF.out.mono ?_
  rintro e w2 ⟨rfl, hb⟩
  have HB2 := Lib.hid (HB.out.trans (hb.mono HB.out.size))
  clear hb HF HB
  cases o with
  | none =>
    obtain rfl : bo = false := HBO.out
    have HE : Hid (R = (0, false)) := HAN.out rfl
    clear HAN HAT HY HBO hv
    go_wp2_with fail
    go_ret2
    exact ⟨by rw [HE.out]; rfl, HB2.out⟩
  | some k =>
    obtain rfl : bo = true := HBO.out
    obtain rfl : y = k := HY.out
    have HE : Hid (R = (asN1 y.data.toList, decide (y.size = 4))) := HAT.out _ rfl
    have HV := Lib.hid (rasNumber_any y w2 (hv _ rfl))
    clear HAN HAT HY HBO hv
    go_wp2_with fail
    refine HV.out.mono ?_
    rintro e w3 ⟨rfl, hb⟩
    have HB3 := Lib.hid (HB2.out.trans (hb.mono HB2.out.size))
    clear hb HV
    go_wp2
    go_ret2
    exact ⟨by rw [HE.out]; rfl, HB3.out⟩

end Go.Proofs.YtjphecfkjpfkeaaDoor
