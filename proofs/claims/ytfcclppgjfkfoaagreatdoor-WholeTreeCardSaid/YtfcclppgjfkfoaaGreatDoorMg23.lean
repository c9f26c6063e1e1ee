/- awakeTree of WholeTree. Conditions: the contracts of packages edit, encode and decode. -/
import Derived.Test.YtfcclppgjfkfoaaGreatDoorMg16
import Derived.Test.YtfcclppgjfkfoaaGreatDoorMg22
import Derived.Test.YtfcclppgjfkfoaaGreatDoorMg21
namespace Go.Proofs.YtfcclppgjfkfoaaGreatDoor
open Go.RowKit

def T17 : DT := ⟨n17, [], 3⟩
theorem find17n : findR n17 [47, 97, 47, 98] = some (b17 []) := by
  unfold findR
  rw [parts16]
  kernel_rfl
theorem told17 : Told T17 100 := ⟨by kernel_rfl, tok_good 8 n17 (by kernel_rfl), by
  have : decide (wS (tokR 8 n17) ≤ 100) = true := by kernel_rfl
  exact of_decide_eq_true this, by decide, rfl, by decide, by decide⟩
theorem enOk17 : EnOk T17 := enOk_low (by decide +kernel)
theorem in17 : DtIn T17 := ⟨by unfold in64 T17; decide, fun x hx => absurd hx List.not_mem_nil⟩

set_option maxHeartbeats 3200000 in
set_option maxRecDepth 100000 in
theorem awakeTree_any (M : EditMust) (E : EncTree) (D : DecTree) (w : World) : Calls Tryz.prog 4 #[] w fun e w' => e = .returned (.bool true) ∧ Below w.heap.size w w' := by
  obtain ⟨b, hb1, hb2, hb3⟩ := told_enc told17 (by decide)
  have hb3 := (hb3 []).2.2
  rw [List.append_nil] at hb3
  obtain ⟨S, hS⟩ : ∃ S : ByteArray, S = ⟨b.toArray⟩ := ⟨_, rfl⟩
  have hSd : S.data.toList = b := by rw [hS]
  have hSz : S.size ≤ 16384 := by show S.data.toList.length ≤ _; rw [hSd]; exact hb2
  have HMK : Hid (∀ W, Calls Tryz.prog 12 #[.agg #[.string ⟨#[]⟩, .slice none 0 0, .slice none 0 0], .string ⟨#[47, 97, 47, 98]⟩] W (Ed (fun _ => True) (n17, 0) W)) := fun W => by
    have := M.make (fun _ => True) nd0 _ _ ⟨#[47, 97, 47, 98]⟩ W (sz_of_low low17_0) (by decide) (nd0_at W _)
    rw [show (⟨#[47, 97, 47, 98]⟩ : ByteArray).data.toList = [47, 97, 47, 98] from rfl, make17] at this
    exact this
  have HEN : Hid (∀ W G y z, NdAt W G n17 y z → Calls Tryz.prog 9 #[.agg #[.string n17.nm, y, z, .slice none 0 0, .int .i64 3]] W fun e w' => e = .returned (.tuple #[.string S, .int .i64 0]) ∧ Below W.heap.size W w') := fun W G y z h => by
    have := E T17 y z none 0 W enOk17 in17 ⟨nd_lt h, .inl rfl⟩
    rw [hb1, ← hS] at this
    exact this
  have HDE : Hid (∀ W, Calls Tryz.prog 5 #[.string S] W fun e w' => ∃ v2 v3 A cap, e = .returned (.tuple #[.agg (dtC n17.nm v2 v3 (.slice A 0 cap) 3), .int .i64 0]) ∧ DtAt w' T17 v2 v3 A ∧ Below W.heap.size W w') := fun W => by
    have := D S W (by omega)
    rw [hSd, hb3] at this
    exact this
  have HFD : Hid (∀ W G y z, NdAt W G n17 y z → Calls Tryz.prog 13 #[.agg #[.string n17.nm, y, z], .string ⟨#[47, 97, 47, 98]⟩] W fun e w' => ∃ u2 u3, e = .returned (.tuple #[.agg #[.string (b17 []).nm, u2, u3], .bool true]) ∧ NdAt w' G (b17 []) u2 u3 ∧ Below W.heap.size W w') := fun W G y z h => by
    have := rfind_any G n17 y z ⟨#[47, 97, 47, 98]⟩ W (by decide) h
    rw [show (⟨#[47, 97, 47, 98]⟩ : ByteArray).data.toList = [47, 97, 47, 98] from rfl, find17n] at this
    exact this
  have HB := Lib.hid (Below.refl w.heap.size w)
  clear M E D hb1 hb2 hb3 hS hSd hSz
  go_enter Tryz.func4, Tryz.ntmps4
  go_wp2_with fail
  refine (HMK.out _).mono ?_
  rintro e v1 ⟨u2, u3, rfl, hk, hb⟩
  obtain ⟨pa, pb, pc, pd, rfl, rfl, _⟩ := nd_shape hk
  have hbn : Below v1.heap.size v1 (v1.alloc (.cells #[.string n17.nm, .slice pa n17.ps.length pc, .slice pb n17.ks.length pd] 28)) := (Below.refl _ _).alloc (Nat.le_refl _) _
  have hb := hb.trans (hbn.mono hb.size)
  have HNP := Lib.hid (nd_below hk hbn)
  have HAP := Lib.hid (Arr.new v1 28 #[.string n17.nm, .slice pa n17.ps.length pc, .slice pb n17.ks.length pd])
  have HB := Lib.hid (HB.out.trans (hb.mono HB.out.size))
  clear hk hb hbn HMK
  go_upto_region 2 with fail
  generalize v1.alloc (.cells #[.string n17.nm, .slice pa n17.ps.length pc, .slice pb n17.ks.length pd] 28) = W1 at *
  generalize v1.heap.size = gp at *
  obtain ⟨p0, p1, p2⟩ : W1.cell? ⟨gp, 0, none⟩ = some (.string n17.nm) ∧ W1.cell? ⟨gp, 1, none⟩ = some (.slice pa n17.ps.length pc) ∧ W1.cell? ⟨gp, 2, none⟩ = some (.slice pb n17.ks.length pd) := ⟨HAP.out.cell 0, HAP.out.cell 1, HAP.out.cell 2⟩
  go_wp2_with fail
  refine (HEN.out _ _ _ _ HNP.out).mono ?_
  rintro e v2 ⟨rfl, hb⟩
  have HB := Lib.hid (HB.out.trans (hb.mono HB.out.size))
  clear hb HEN p0 p1 p2 HNP HAP
  go_wp2_with fail
  refine (HDE.out _).mono ?_
  rintro e v3 ⟨w2, w3, A, cap, rfl, hd, hb⟩
  obtain ⟨qa, qb, qc, qd, rfl, rfl, _⟩ := nd_shape hd.1
  have hbn : Below v3.heap.size v3 (v3.alloc (.cells (dtC n17.nm (.slice qa n17.ps.length qc) (.slice qb n17.ks.length qd) (.slice A 0 cap) 3) 31)) := (Below.refl _ _).alloc (Nat.le_refl _) _
  have hb := hb.trans (hbn.mono hb.size)
  have HNQ := Lib.hid (nd_below hd.1 hbn)
  have HAQ := Lib.hid (Arr.new v3 31 (dtC n17.nm (.slice qa n17.ps.length qc) (.slice qb n17.ks.length qd) (.slice A 0 cap) 3))
  have HB := Lib.hid (HB.out.trans (hb.mono HB.out.size))
  clear hd hb hbn HDE
  go_upto_region 4 with fail
  change Code.wp _ _ _ _ (v3.alloc (.cells (dtC n17.nm (.slice qa n17.ps.length qc) (.slice qb n17.ks.length qd) (.slice A 0 cap) 3) 31))
  generalize v3.alloc (.cells (dtC n17.nm (.slice qa n17.ps.length qc) (.slice qb n17.ks.length qd) (.slice A 0 cap) 3) 31) = W3 at *
  generalize v3.heap.size = gq at *
  obtain ⟨q0, q1, q2, q3, q4⟩ := dt_cells HAQ.out
  go_wp2_with fail
  refine (HFD.out _ _ _ _ HNQ.out).mono ?_
  rintro e v4 ⟨u2, u3, rfl, hk, hb⟩
  obtain ⟨ra, rb, rc, rd, rfl, rfl, _⟩ := nd_shape hk
  have hbn : Below v4.heap.size v4 (v4.alloc (.cells #[.string (b17 []).nm, .slice ra (b17 []).ps.length rc, .slice rb (b17 []).ks.length rd] 28)) := (Below.refl _ _).alloc (Nat.le_refl _) _
  have hb := hb.trans (hbn.mono hb.size)
  have HAQ := Lib.hid (HAQ.out.below hb HAQ.out.lt)
  have HB := Lib.hid (HB.out.trans (hb.mono HB.out.size))
  clear hk hb hbn HFD HNQ q0 q1 q2 q3 q4
  go_upto_region 5 with fail
  generalize v4.alloc (.cells #[.string (b17 []).nm, .slice ra (b17 []).ps.length rc, .slice rb (b17 []).ks.length rd] 28) = W4 at *
  obtain ⟨q0, q1, q2, q3, q4⟩ := dt_cells HAQ.out
  go_wp2
  go_ret
  exact ⟨rfl, HB.out⟩
end Go.Proofs.YtfcclppgjfkfoaaGreatDoor
