/- The law TreeOf: whatever comes in it returns true. Conditions: the contracts of package tree; a slice that reads as tokens. -/
import Derived.Test.YtjddclkfakphlaaTrT
import Derived.Test.YtjddclkfakphlaaTkSC
namespace Go.Proofs.Ytjddclkfakphlaa
open Go.RowKit

set_option maxHeartbeats 1600000 in
set_option maxRecDepth 100000 in
theorem treeOf_any (M : TreeMust) (A : Option Addr) (cap : Nat) (l : List TK) (w : World) (hr : RdTk w A l) (hl : l.length ≤ maxLen) (hkd : KdOk l) (hlc : l.length ≤ cap) (hcm : cap ≤ maxLen) :
    Calls Try.prog 4 #[.slice A l.length cap] w fun e w' => e = .returned (.bool true) ∧ Below w.heap.size w w' := by
  have HAW := Lib.hid (awake12 M)
  have HFW := Lib.hid (rfew10_any A cap l w hr hl)
  cases hf : few10 l with
  | false =>
    rw [hf] at HFW
    clear M hf hr
    go_enter Try.func4, Try.ntmps4
    go_wp2_with fail
    refine HFW.out.mono ?_
    rintro e w1 ⟨rfl, rfl⟩
    go_wp2_with fail
    refine (HAW.out _).mono ?_
    rintro e w1 ⟨rfl, hb⟩
    go_wp2
    go_ret
    exact ⟨rfl, hb⟩
  | true =>
    rw [hf] at HFW
    have h60 := (few10_len hf).1
    have HA : Hid (∀ W, Below w.heap.size w W → Calls Try.prog 21 #[.slice A l.length cap] W fun e w' => ∃ v2 v3, e = .returned (.tuple #[.agg #[.string (ofR l).1.nm, v2, v3], .int .i64 ((ofR l).2 : Int)]) ∧ NdAt w' (fun k => k < w'.heap.size) (ofR l).1 v2 v3 ∧ Below W.heap.size W w') := fun W hW =>
      M.of A cap l W (hr.below hW) hkd (by omega) hlc hcm
    have HB : Hid (∀ W, Below w.heap.size w W → Calls Try.prog 22 #[.slice A l.length cap] W fun e w' => ∃ v2 v3, e = .returned (.tuple #[.agg #[.string (ofR l).1.nm, v2, v3], .int .i64 ((ofR l).2 : Int)]) ∧ NdAt w' (fun k => W.heap.size ≤ k) (ofR l).1 v2 v3 ∧ Below W.heap.size W w') := fun W hW =>
      rOf_any A cap l W (hr.below hW) (by omega)
    have HS := Lib.hid (fun (G G' : Nat → Prop) v2 v3 u2 u3 W h1 h2 => rSame_any G G' (ofR l).1 (ofR l).1 v2 v3 u2 u3 W h1 h2)
    rw [sameR_refl] at HS
    generalize ofR l = R at *
    obtain ⟨n, er⟩ := R
    simp only at HA HB HS
    clear M hf hr
    go_enter Try.func4, Try.ntmps4
    go_wp2_with fail
    refine HFW.out.mono ?_
    rintro e w1 ⟨rfl, rfl⟩
    go_wp2_with fail
    refine (HA.out _ (Below.refl _ _)).mono ?_
    rintro e w1 ⟨v2, v3, rfl, hn, hb1⟩
    obtain ⟨a2, a3, c2, c3, rfl, rfl, _⟩ := nd_shape hn
    have HN1 := Lib.hid hn
    have HB1 := Lib.hid hb1
    clear hn hb1 HA
    go_upto_region 4 with fail
    have ha3 := Arr.new w1 25 #[.string n.nm, .slice a2 n.ps.length c2, .slice a3 n.ks.length c3]
    have hb : Below w1.heap.size w1 (w1.alloc (.cells #[.string n.nm, .slice a2 n.ps.length c2, .slice a3 n.ks.length c3] 25)) := (Below.refl _ _).alloc (Nat.le_refl _) _
    have HN1 := Lib.hid (nd_below HN1.out hb)
    have HB1 := Lib.hid (HB1.out.trans (hb.mono HB1.out.size))
    have HA3 := Lib.hid ha3
    clear ha3 hb
    generalize w1.alloc (.cells #[.string n.nm, .slice a2 n.ps.length c2, .slice a3 n.ks.length c3] 25) = W3 at *
    generalize w1.heap.size = g3 at *
    generalize hG : (fun k => k < g3) = G1 at *
    clear hG
    go_wp2_with fail
    refine (HB.out _ HB1.out).mono ?_
    rintro e w4 ⟨u2, u3, rfl, hu, hb⟩
    obtain ⟨b2, b3, d2, d3, rfl, rfl, _⟩ := nd_shape hu
    have HU := Lib.hid hu
    have HN1 := Lib.hid (nd_below HN1.out hb)
    have HA3 := Lib.hid (HA3.out.below hb HA3.out.lt)
    have HB1 := Lib.hid (HB1.out.trans (hb.mono HB1.out.size))
    clear hu hb HB
    go_upto_region 5 with fail
    have ha5 := Arr.new w4 25 #[.string n.nm, .slice b2 n.ps.length d2, .slice b3 n.ks.length d3]
    have hb : Below w4.heap.size w4 (w4.alloc (.cells #[.string n.nm, .slice b2 n.ps.length d2, .slice b3 n.ks.length d3] 25)) := (Below.refl _ _).alloc (Nat.le_refl _) _
    have HU := Lib.hid (nd_below HU.out hb)
    have HN1 := Lib.hid (nd_below HN1.out hb)
    have HA3 := Lib.hid (HA3.out.below hb HA3.out.lt)
    have HB1 := Lib.hid (HB1.out.trans (hb.mono HB1.out.size))
    have HA5 := Lib.hid ha5
    clear ha5 hb
    generalize w4.alloc (.cells #[.string n.nm, .slice b2 n.ps.length d2, .slice b3 n.ks.length d3] 25) = W5 at *
    generalize w4.heap.size = g5 at *
    obtain ⟨m0, m1, m2⟩ := arr_nd HA3.out
    obtain ⟨k0, k1, k2⟩ := arr_nd HA5.out
    go_wp2_with fail
    refine (HS.out _ _ _ _ _ _ _ HN1.out HU.out).mono ?_
    rintro e w6 ⟨rfl, hb⟩
    have HB1 := Lib.hid (HB1.out.trans (hb.mono HB1.out.size))
    clear hb m0 m1 m2 k0 k1 k2
    go_wp2_with fail
    refine (HAW.out _).mono ?_
    rintro e w7 ⟨rfl, hb⟩
    have HB1 := Lib.hid (HB1.out.trans (hb.mono HB1.out.size))
    clear hb
    go_wp2
    go_ret
    exact ⟨rfl, HB1.out⟩
end Go.Proofs.Ytjddclkfakphlaa
