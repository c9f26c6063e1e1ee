/- The document's down of layer 17: a change at the node of names. Conditions: names, and a tree of at most 10^6 properties and kids a node, that are read. -/
import Derived.Test.YtfcclppgjfkfoaaDoorMg20
import Derived.Test.YtfcclppgjfkfoaaDoorMg21
namespace Go.Proofs.YtfcclppgjfkfoaaDoor
open Go.RowKit

/-- What may not change behind a tree's back: the node, the result, the kids that are made. -/
def fpD (g3 g6 : Nat) (ov : Value) (k : Nat) : Prop := k = g3 ∨ k = g6 ∨ ownS ov k
theorem down_nil (n : ND) (c : CH) : downR n [] c = hereR n c := rfl
/-- What down makes of the kids. -/
def kidsT (n : ND) (s : ByteArray) (L : List ByteArray) (c : CH) : List ND := match kidR n s with
  | some x => replR s (downR x L c).1 n.ks
  | none => []
theorem kidsT_some {n x : ND} {s : ByteArray} {L : List ByteArray} {c : CH} (h : kidR n s = some x) : kidsT n s L c = replR s (downR x L c).1 n.ks := by unfold kidsT; rw [h]
theorem kidsT_len (n : ND) (s : ByteArray) (L : List ByteArray) (c : CH) : (kidsT n s L c).length ≤ n.ks.length := by
  unfold kidsT
  split
  · exact Nat.le_of_eq repl_len
  · exact Nat.zero_le _
theorem down_yes {n x : ND} {s : ByteArray} {L : List ByteArray} {c : CH} (h : kidR n s = some x) (h0 : (downR x L c).2 = 0) : downR n (s :: L) c = (.mk n.nm n.ps (kidsT n s L c), 0) := by
  rw [downR, h, kidsT_some h]; simp only [if_pos h0]
theorem down_no {n : ND} {s : ByteArray} {L : List ByteArray} {c : CH} (h : kidR n s = none) : downR n (s :: L) c = (nd0, 8) := by rw [downR, h]
theorem down_bad {n x : ND} {s : ByteArray} {L : List ByteArray} {c : CH} (h : kidR n s = some x) (h0 : (downR x L c).2 ≠ 0) : downR n (s :: L) c = (nd0, (downR x L c).2) := by
  rw [downR, h]; simp only [if_neg h0]

set_option maxHeartbeats 1600000 in
set_option maxRecDepth 100000 in
theorem rdown_nil (G : Nat → Prop) (n : ND) (y z : Value) (c : CH) (A : Option Addr) (cap : Nat) (w : World) (hN : NdAt w G n y z) (hc : c.nm.size ≤ 1099511627776) (hl1 : n.ps.length ≤ 1000000) (hl2 : n.ks.length ≤ 1000000) :
    Calls Tryd.prog 46 #[.agg #[.string n.nm, y, z], .slice A 0 cap, .agg #[.int .i64 c.kd, .string c.nm, .string c.vl]] w fun e w' => ∃ u2 u3, e = .returned (.tuple #[.agg #[.string (hereR n c).1.nm, u2, u3], .int .i64 ((hereR n c).2 : Nat)]) ∧ NdAt w' (OrNew G w.heap.size) (hereR n c).1 u2 u3 ∧ Below w.heap.size w w' := by
  obtain ⟨A2, K, pc, kc, rfl, rfl, hpc, hpm, hkc, hkm⟩ := nd_shape hN
  obtain ⟨kd, cn, cv⟩ := c
  simp only at hc
  obtain ⟨W1, hW1⟩ : ∃ W1, W1 = ((w.alloc (.cells #[.string n.nm, .slice A2 n.ps.length pc, .slice K n.ks.length kc] 25)).alloc (.cells #[.int .i64 kd, .string cn, .string cv] 27)).alloc (.cells #[.string ⟨#[]⟩, .slice none 0 0, .slice none 0 0] 25) := ⟨_, rfl⟩
  obtain ⟨g3, hg3⟩ : ∃ g3, g3 = w.heap.size := ⟨_, rfl⟩
  obtain ⟨g5, hg5⟩ : ∃ g5, g5 = w.heap.size + 1 := ⟨_, rfl⟩
  obtain ⟨g6, hg6⟩ : ∃ g6, g6 = w.heap.size + 1 + 1 := ⟨_, rfl⟩
  have hz1 : W1.heap.size = w.heap.size + 3 := by rw [hW1, sz_alloc, sz_alloc, sz_alloc]
  have hB1 : Below w.heap.size w W1 := by rw [hW1]; exact (((Below.refl _ _).alloc (Nat.le_refl _) _).alloc (by rw [sz_alloc]; omega) _).alloc (by rw [sz_alloc, sz_alloc]; omega) _
  have hA3 : Arr W1 g3 25 #[.string n.nm, .slice A2 n.ps.length pc, .slice K n.ks.length kc] := by rw [hW1, hg3]; exact ((Arr.new w _ _).alloc _).alloc _
  have hA5 : Arr W1 g5 27 #[.int .i64 kd, .string cn, .string cv] := by rw [hW1, hg5]; exact (Arr.new1 w _ _ _).alloc _
  have hA6 : Arr W1 g6 25 #[.string ⟨#[]⟩, .slice none 0 0, .slice none 0 0] := by rw [hW1, hg6]; have h := Arr.new ((w.alloc (.cells #[.string n.nm, .slice A2 n.ps.length pc, .slice K n.ks.length kc] 25)).alloc (.cells #[.int .i64 kd, .string cn, .string cv] 27)) 25 #[.string ⟨#[]⟩, .slice none 0 0, .slice none 0 0]; rw [sz_alloc, sz_alloc] at h; exact h
  have HNA := Lib.hid (nd_and hN)
  have HG3 : Hid (w.heap.size ≤ g3) := by unfold Hid; omega
  have HG6 : Hid (w.heap.size ≤ g6) := by unfold Hid; omega
  have HNE : Hid (g6 ≠ g3) := by unfold Hid; omega
  have HL3 : Hid (g3 < W1.heap.size) := hA3.lt
  have HL6 : Hid (g6 < W1.heap.size) := hA6.lt
  have HZ1 : Hid (w.heap.size ≤ W1.heap.size) := hB1.size
  have HB1 := Lib.hid hB1
  have HA3 := Lib.hid hA3
  have HA5 := Lib.hid hA5
  have HA6 := Lib.hid hA6
  have HH := Lib.hid (rhere_any _ n _ _ ⟨kd, cn, cv⟩ W1 (nd_below HNA.out hB1) hc hl1 hl2)
  obtain ⟨c30, c31, c32⟩ : W1.cell? ⟨g3, 0, none⟩ = some (.string n.nm) ∧ W1.cell? ⟨g3, 1, none⟩ = some (.slice A2 n.ps.length pc) ∧ W1.cell? ⟨g3, 2, none⟩ = some (.slice K n.ks.length kc) := ⟨hA3.cell 0, hA3.cell 1, hA3.cell 2⟩
  obtain ⟨c50, c51, c52⟩ : W1.cell? ⟨g5, 0, none⟩ = some (.int .i64 kd) ∧ W1.cell? ⟨g5, 1, none⟩ = some (.string cn) ∧ W1.cell? ⟨g5, 2, none⟩ = some (.string cv) := ⟨hA5.cell 0, hA5.cell 1, hA5.cell 2⟩
  clear hN hA3 hA5 hA6 hB1 hpc hkc HNA hl1 hl2 hc
  generalize hereR n ⟨kd, cn, cv⟩ = T at *
  go_enter Tryd.func46, Tryd.ntmps46
  go_upto_region 1 with fail
  change Code.wp _ _ _ _ (((w.alloc (.cells #[.string n.nm, .slice A2 n.ps.length pc, .slice K n.ks.length kc] 25)).alloc (.cells #[.int .i64 kd, .string cn, .string cv] 27)).alloc (.cells #[.string ⟨#[]⟩, .slice none 0 0, .slice none 0 0] 25))
  rw [← hW1, ← hg6, ← hg5, ← hg3]
  clear hW1 hg6 hg5 hg3 hz1
  go_wp2_with fail
  refine HH.out.mono ?_
  rintro e w2 ⟨u2, u3, rfl, hk7, hb⟩
  obtain ⟨ua, ub, uc, ud, rfl, rfl, _⟩ := nd_shape hk7
  have HA6 := Lib.hid (HA6.out.below hb HL6.out)
  have HBF := Lib.hid (HB1.out.trans (hb.mono HB1.out.size))
  have HND : Hid (NdAt (w2.setRow g6 #[.string T.1.nm, .slice ua T.1.ps.length uc, .slice ub T.1.ks.length ud]) (OrNew G w.heap.size) T.1 (.slice ua T.1.ps.length uc) (.slice ub T.1.ks.length ud)) := by
    have h6 := HG6.out
    have h7 := HL6.out
    have h8 := HZ1.out
    exact (hk7.kept (moved_setRow w2 g6 _) (fun k hk e => by rcases hk with hk | hk <;> omega)).mono fun k hk => hk.imp (fun h => h.1) (fun h => Nat.le_trans h8 h)
  clear hk7 hb HH
  go_wp2_with (refine wpList_store_row rfl 25 (.tmp 6) (.tmp 20) rfl g6 #[.string T.1.nm, .slice ua T.1.ps.length uc, .slice ub T.1.ks.length ud] rfl rfl _ _ HA6.out (infoNd _ _ _) rfl (nd_one _ _ _ _ _ _ _) ?_)
  exact bodyPost_ret (results_rowN rfl _ _ g6 _ #[.string T.1.nm, .slice ua T.1.ps.length uc, .slice ub T.1.ks.length ud] _ _ rfl (HA6.out.row _) Tryd.underlying25 rfl (infoNd _ _ _)) rfl ⟨_, _, rfl, HND.out, below_setRow HBF.out HG6.out _⟩

set_option maxHeartbeats 6400000 in
set_option maxRecDepth 100000 in
theorem rdown_cons (G : Nat → Prop) (n : ND) (y z : Value) (s : ByteArray) (L : List ByteArray) (c : CH) (A : Option Addr) (cap : Nat) (w : World) (hN : NdAt w G n y z) (hT : RdT w A (s :: L)) (hcap : L.length + 1 ≤ cap) (hc : c.nm.size ≤ 1099511627776) (hl2 : n.ks.length ≤ 1000000)
    (hrec : ∀ (G : Nat → Prop) (x : ND) (y z : Value) (A : Option Addr) (cap : Nat) (w : World), x ∈ n.ks → NdAt w G x y z → RdT w A L → L.length ≤ cap →
      Calls Tryd.prog 46 #[.agg #[.string x.nm, y, z], .slice A L.length cap, .agg #[.int .i64 c.kd, .string c.nm, .string c.vl]] w fun e w' => ∃ u2 u3, e = .returned (.tuple #[.agg #[.string (downR x L c).1.nm, u2, u3], .int .i64 ((downR x L c).2 : Nat)]) ∧ NdAt w' (OrNew G w.heap.size) (downR x L c).1 u2 u3 ∧ Below w.heap.size w w') :
    Calls Tryd.prog 46 #[.agg #[.string n.nm, y, z], .slice A (L.length + 1) cap, .agg #[.int .i64 c.kd, .string c.nm, .string c.vl]] w fun e w' => ∃ u2 u3, e = .returned (.tuple #[.agg #[.string (downR n (s :: L) c).1.nm, u2, u3], .int .i64 ((downR n (s :: L) c).2 : Nat)]) ∧ NdAt w' (OrNew G w.heap.size) (downR n (s :: L) c).1 u2 u3 ∧ Below w.heap.size w w' := by
  rcases hT with h | ⟨tb, tof, rfl, htc⟩
  · cases h
  obtain ⟨A2, K, pc, kc, rfl, rfl, hpc, hpm, hkc, hkm⟩ := nd_shape hN
  obtain ⟨kd, cn, cv⟩ := c
  simp only at hc
  obtain ⟨W1, hW1⟩ : ∃ W1, W1 = ((w.alloc (.cells #[.string n.nm, .slice A2 n.ps.length pc, .slice K n.ks.length kc] 25)).alloc (.cells #[.int .i64 kd, .string cn, .string cv] 27)).alloc (.cells #[.string ⟨#[]⟩, .slice none 0 0, .slice none 0 0] 25) := ⟨_, rfl⟩
  obtain ⟨g3, hg3⟩ : ∃ g3, g3 = w.heap.size := ⟨_, rfl⟩
  obtain ⟨g5, hg5⟩ : ∃ g5, g5 = w.heap.size + 1 := ⟨_, rfl⟩
  obtain ⟨g6, hg6⟩ : ∃ g6, g6 = w.heap.size + 1 + 1 := ⟨_, rfl⟩
  have hz1 : W1.heap.size = w.heap.size + 3 := by rw [hW1, sz_alloc, sz_alloc, sz_alloc]
  have hB1 : Below w.heap.size w W1 := by rw [hW1]; exact (((Below.refl _ _).alloc (Nat.le_refl _) _).alloc (by rw [sz_alloc]; omega) _).alloc (by rw [sz_alloc, sz_alloc]; omega) _
  have hA3 : Arr W1 g3 25 #[.string n.nm, .slice A2 n.ps.length pc, .slice K n.ks.length kc] := by rw [hW1, hg3]; exact ((Arr.new w _ _).alloc _).alloc _
  have hA5 : Arr W1 g5 27 #[.int .i64 kd, .string cn, .string cv] := by rw [hW1, hg5]; exact (Arr.new1 w _ _ _).alloc _
  have hA6 : Arr W1 g6 25 #[.string ⟨#[]⟩, .slice none 0 0, .slice none 0 0] := by rw [hW1, hg6]; have h := Arr.new ((w.alloc (.cells #[.string n.nm, .slice A2 n.ps.length pc, .slice K n.ks.length kc] 25)).alloc (.cells #[.int .i64 kd, .string cn, .string cv] 27)) 25 #[.string ⟨#[]⟩, .slice none 0 0, .slice none 0 0]; rw [sz_alloc, sz_alloc] at h; exact h
  have HNA := Lib.hid (nd_and hN)
  have HG3 : Hid (w.heap.size ≤ g3) := by unfold Hid; omega
  have HG6 : Hid (w.heap.size ≤ g6) := by unfold Hid; omega
  have HNE : Hid (g6 ≠ g3) := by unfold Hid; omega
  have HL3 : Hid (g3 < W1.heap.size) := hA3.lt
  have HL6 : Hid (g6 < W1.heap.size) := hA6.lt
  have HZ1 : Hid (w.heap.size ≤ W1.heap.size) := hB1.size
  have HB1 := Lib.hid hB1
  have HA3 := Lib.hid hA3
  have HA5 := Lib.hid hA5
  have HA6 := Lib.hid hA6
  have HREC0 := Lib.hid hrec
  have HTC := Lib.hid htc
  have HCAP := Lib.hid hcap
  have HGO := Lib.hid (kdgo_start s (kidsT n s L ⟨kd, cn, cv⟩) n.ks)
  have HOT := Lib.hid (fun k (O : List ND) (hk : k < n.ks.length) => @kdgo_other s (kidsT n s L ⟨kd, cn, cv⟩) n.ks k O hk)
  have HLA := Lib.hid (fun k (O : List ND) (hk : k < n.ks.length) => @kdgo_later s (kidsT n s L ⟨kd, cn, cv⟩) n.ks k O hk)
  have HPU : Hid (∀ k (O : List ND) (x : ND), k < n.ks.length → KdGo s (kidsT n s L ⟨kd, cn, cv⟩) n.ks k false O → n.ks.getD k nd0 = x → x.nm = s → kidR n s = some x ∧ KdGo s (kidsT n s L ⟨kd, cn, cv⟩) n.ks (k + 1) true (O ++ [(downR x L ⟨kd, cn, cv⟩).1])) := fun k O x hk h hx he => by
    have h1 := kdgo_kid hk h (by rw [hx]; exact he)
    rw [hx] at h1
    refine ⟨h1, ?_⟩
    rw [kidsT_some h1] at h ⊢
    exact kdgo_put hk h (by rw [hx]; exact he)
  have HLN := Lib.hid (fun k is (O : List ND) (h : KdGo s (kidsT n s L ⟨kd, cn, cv⟩) n.ks k is O) => kdgo_len h (kidsT_len n s L ⟨kd, cn, cv⟩))
  have HEY := Lib.hid (fun (O : List ND) => @kdgo_end_yes s (kidsT n s L ⟨kd, cn, cv⟩) n.ks O)
  have HEN := Lib.hid (fun (O : List ND) => @kdgo_end_no n s (kidsT n s L ⟨kd, cn, cv⟩) O)
  have HYES : Hid (∀ x, kidR n s = some x → (downR x L ⟨kd, cn, cv⟩).2 = 0 → downR n (s :: L) ⟨kd, cn, cv⟩ = (.mk n.nm n.ps (kidsT n s L ⟨kd, cn, cv⟩), 0)) := fun x => down_yes
  have HNO : Hid (kidR n s = none → downR n (s :: L) ⟨kd, cn, cv⟩ = (nd0, 8)) := down_no
  have HBAD : Hid (∀ x, kidR n s = some x → (downR x L ⟨kd, cn, cv⟩).2 ≠ 0 → downR n (s :: L) ⟨kd, cn, cv⟩ = (nd0, (downR x L ⟨kd, cn, cv⟩).2)) := fun x => down_bad
  generalize kidsT n s L ⟨kd, cn, cv⟩ = T at *
  generalize downR n (s :: L) ⟨kd, cn, cv⟩ = R at *
  have HEL := Lib.hid elemNode
  have d0 : (((L.length + 1 : Nat) : Int) == 0) = false := by simp; omega
  have hLi : (0 : Int) < ((L.length + 1 : Nat) : Int) := by omega
  have hL1 : (1 : Int) ≤ ((L.length + 1 : Nat) : Int) := by omega
  clear hrec htc hcap
  clear hN hA3 hA5 hA6 hB1 hpc hkc
  go_enter Tryd.func46, Tryd.ntmps46
  go_upto_region 1 with fail
  change Code.wp _ _ _ _ (((w.alloc (.cells #[.string n.nm, .slice A2 n.ps.length pc, .slice K n.ks.length kc] 25)).alloc (.cells #[.int .i64 kd, .string cn, .string cv] 27)).alloc (.cells #[.string ⟨#[]⟩, .slice none 0 0, .slice none 0 0] 25))
  rw [← hW1, ← hg6, ← hg5, ← hg3]
  clear hW1 hg6 hg5 hg3 hz1
  go_wp2
  go_loopw [8, 9, 10] (fun o8 bv iv wr => ∃ (k : Nat) (is : Bool) (kl : List KD) (ov : Value), ov = o8 ∧ k ≤ n.ks.length ∧ iv = .int .i64 k ∧ bv = .bool is ∧ Hid (KdGo s T n.ks k is (kl.map KD.nd)) ∧ wr.ownsRow 0 25 3 ov kl.length (kdL kl) ∧ (∀ q, ownS ov q → W1.heap.size ≤ q) ∧ Hid (∀ c ∈ kl, NdAt wr (fun q => w.heap.size ≤ w.heap.size ∧ OrNew G w.heap.size q ∧ ¬ fpD g3 g6 ov q) c.nd c.y c.z) ∧ Below W1.heap.size W1 wr ∧ Hid (is = true → ∃ x, kidR n s = some x ∧ (downR x L ⟨kd, cn, cv⟩).2 = 0)) (fun _ _ iv _ => n.ks.length - (intOf iv).toNat)
  case atStart => exact ⟨0, false, [], _, rfl, Nat.zero_le _, rfl, rfl, HGO, World.ownsRow_nil _ _ _ _, (fun _ hj => by cases hj), (fun _ hc => by cases hc), Below.refl _ _, (fun h => by cases h)⟩
  case round =>
    clear HGO
    obtain ⟨k, is, kl, ov, rfl, hk, rfl, rfl, HG, hown, hbl, HK, hb, HOK⟩ := hrel
    have hO : kl.length ≤ 1000000 := by
      have := HLN.out k is _ HG.out
      rw [List.length_map] at this; omega
    have hA3 := HA3.out.below hb HA3.out.lt
    have hA5 := HA5.out.below hb HA5.out.lt
    have hA6 := HA6.out.below hb HA6.out.lt
    have HBW : Hid (Below w.heap.size w wr) := HB1.out.trans (hb.mono HB1.out.size)
    obtain ⟨c30, c31, c32⟩ : wr.cell? ⟨g3, 0, none⟩ = some (.string n.nm) ∧ wr.cell? ⟨g3, 1, none⟩ = some (.slice A2 n.ps.length pc) ∧ wr.cell? ⟨g3, 2, none⟩ = some (.slice K n.ks.length kc) := ⟨hA3.cell 0, hA3.cell 1, hA3.cell 2⟩
    by_cases hlt : k < n.ks.length
    · have hki : (k : Int) < n.ks.length := by omega
      obtain ⟨b, off, x, y1, z1, hKe, h1, h2, h3, h4, HX⟩ := nd_kid HNA.out hlt
      obtain ⟨ya, za, yc, zc, rfl, rfl, _⟩ := nd_shape h4
      subst hKe
      have M := Moved.of_below HBW.out (fun _ => False)
      replace h1 := cell_kept M id h1
      replace h2 := cell_kept M id h2
      replace h3 := cell_kept M id h3
      have HAN : Hid (Arr (wr.alloc (.cells #[.string ⟨#[]⟩, .slice none 0 0, .slice none 0 0] 25)) wr.heap.size 25 #[.string ⟨#[]⟩, .slice none 0 0, .slice none 0 0]) := Arr.new _ _ _
      obtain ⟨W2, hW2⟩ : ∃ W2, W2 = (wr.alloc (.cells #[.string ⟨#[]⟩, .slice none 0 0, .slice none 0 0] 25)).setRow wr.heap.size #[.string x.nm, .slice ya x.ps.length yc, .slice za x.ks.length zc] := ⟨_, rfl⟩
      obtain ⟨g11, hg11⟩ : ∃ g11, g11 = wr.heap.size := ⟨_, rfl⟩
      have HGW0 : Hid (wr.heap.size ≤ g11) := by unfold Hid; omega
      have hb2 : Below wr.heap.size wr W2 := by rw [hW2]; exact below_setRow ((Below.refl _ _).alloc (Nat.le_refl _) _) (Nat.le_refl _) _
      have hA11 : Arr W2 g11 25 #[.string x.nm, .slice ya x.ps.length yc, .slice za x.ks.length zc] := by rw [hW2, hg11]; exact HAN.out.row _
      obtain ⟨e110, e111, e112⟩ : W2.cell? ⟨g11, 0, none⟩ = some (.string x.nm) ∧ W2.cell? ⟨g11, 1, none⟩ = some (.slice ya x.ps.length yc) ∧ W2.cell? ⟨g11, 2, none⟩ = some (.slice za x.ks.length zc) := ⟨hA11.cell 0, hA11.cell 1, hA11.cell 2⟩
      have tc0 : W2.cell? ⟨tb, tof, none⟩ = some (.string s) := cell_kept (Moved.of_below hb2 (fun _ => False)) id (cell_kept M id (HTC.out 0 (Nat.succ_pos _)))
      have HA11 := Lib.hid hA11
      have HB2 := Lib.hid hb2
      have HOWN := Lib.hid hown
      have HBL := Lib.hid hbl
      have HBR := Lib.hid hb
      have HXM : Hid (x ∈ n.ks) := by rw [← HX.out, List.getD_eq_getElem?_getD, List.getElem?_eq_getElem hlt]; exact List.getElem_mem hlt
      have HXN : Hid (NdAt w (fun q => G q ∧ q < w.heap.size) x (.slice ya x.ps.length yc) (.slice za x.ks.length zc)) := h4
      -- a step: a kid is put behind the others
      have HSTEP : Hid (∀ (W : World) (Y : ND) (u v v' : Value) (w' : World), Below wr.heap.size wr W → NdAt W (fun q => OrNew G w.heap.size q ∧ ¬ fpD g3 g6 ov q) Y u v → Moved W w' (ownS ov) (ownS v') → (∀ q, ownS v' q → W1.heap.size ≤ q) ∧ (∀ c ∈ kl ++ [KD.mk Y u v], NdAt w' (fun q => w.heap.size ≤ w.heap.size ∧ OrNew G w.heap.size q ∧ ¬ fpD g3 g6 v' q) c.nd c.y c.z) ∧ Below W1.heap.size W1 w') := fun W Y u v v' w' hw hY hm => by
        have hs1 : W1.heap.size ≤ W.heap.size := Nat.le_trans HBR.out.size hw.size
        have hm2 : Moved W w' (fpD g3 g6 ov) (fpD g3 g6 v') := hm.inside (fun q hq => .inr (.inr hq)) (fun q hq => by
          rcases hq with hq | hq | hq
          · exact .inl (.inl hq)
          · exact .inl (.inr (.inl hq))
          · exact .inr (.inl hq))
        have hkeep : ∀ {Z : ND} {u v : Value}, NdAt W (fun q => OrNew G w.heap.size q ∧ ¬ fpD g3 g6 ov q) Z u v → NdAt w' (fun q => w.heap.size ≤ w.heap.size ∧ OrNew G w.heap.size q ∧ ¬ fpD g3 g6 v' q) Z u v := fun {Z u v} h => by
          have h5 := ((nd_and h).kept hm2 (fun q hq => hq.1.2)).mono (G' := fun q => w.heap.size ≤ w.heap.size ∧ OrNew G w.heap.size q ∧ ¬ fpD g3 g6 v' q) (fun q hq => ⟨Nat.le_refl _, hq.1.1, fun hf => by
            rcases hm2.foot q hf with h1 | h1
            · exact hq.1.2 h1
            · have := hq.2; omega⟩)
          exact h5
        refine ⟨fun q hq => ?_, fun c hc => ?_, ?_⟩
        · rcases hm.foot q hq with h5 | h5
          · exact HBL.out q h5
          · exact Nat.le_trans hs1 h5
        · rcases List.mem_append.1 hc with h | h
          · exact hkeep (nd_below ((HK.out c h).mono (fun q hq => hq.2)) hw)
          · rw [List.mem_singleton.1 h]; exact hkeep hY
        · exact (HBR.out.trans (hw.mono HBR.out.size)).trans (hm.below HBL.out hs1)
      have HXI : Hid (∀ W, Below wr.heap.size wr W → NdAt W (fun q => OrNew G w.heap.size q ∧ ¬ fpD g3 g6 ov q) x (.slice ya x.ps.length yc) (.slice za x.ks.length zc)) := fun W hw => (nd_below HXN.out (HBW.out.trans (hw.mono HBW.out.size))).mono fun q hq => ⟨.inl hq.1, fun hf => by
        have h5 := HG3.out
        have h6 := HG6.out
        have h7 := HZ1.out
        rcases hf with h | h | h
        · omega
        · omega
        · have := HBL.out q h; omega⟩
      clear M h4 hb2 hA11 hb hown hbl hA3 hA5 hA6
      cases is with
      | true =>
        have HG1 := Lib.hid (HLA.out k _ hlt HG.out)
        rw [HX.out] at HG1
        have HGM : Hid ((kl ++ [KD.mk x (.slice ya x.ps.length yc) (.slice za x.ks.length zc)]).map KD.nd = kl.map KD.nd ++ [x]) := by unfold Hid; simp
        rw [← HGM.out] at HG1
        clear HG HX HGM
        go_upto_region 9 with (refine wpList_store_row rfl 25 (.tmp 11) (.tmp 33) rfl wr.heap.size #[.string x.nm, .slice ya x.ps.length yc, .slice za x.ks.length zc] rfl rfl _ _ HAN.out (infoNd _ _ _) rfl (nd_one _ _ _ _ _ _ _) ?_)
        rw [← hW2, ← hg11]
        clear hW2 hg11 HAN h1 h2 h3
        go_quiet (fail)
        have hw3 : Below wr.heap.size wr (W2.drewN nq) := HB2.out.trans ((below_drewN _ _).mono HB2.out.size)
        have HA11' := Lib.hid (HA11.out.drewN nq)
        have HOWN3 := Lib.hid (ow_below HOWN.out hw3)
        have HW3 := Lib.hid hw3
        have HXI3 := Lib.hid (HXI.out _ hw3)
        clear hw3
        generalize W2.drewN nq = W3 at *
        go_wp2_with (first | (refine wpList_load_row rfl 25 (.tmp 11) rfl g11 rfl _ #[.string x.nm, .slice ya x.ps.length yc, .slice za x.ks.length zc] _ _ HA11'.out Tryd.underlying25 rfl (infoNd _ _ _) ?_) | (at_builtin; refine append_new rfl (.tmp 57) (.tmp 59) 23 rfl 25 3 64 HEL _ kl.length (kdL kl) rfl HOWN3.out #[.string x.nm, .slice ya x.ps.length yc, .slice za x.ks.length zc] rfl (nd_oneL _ _ _ _ _ _ _) W3.heap.size rfl rfl (by unfold maxLen; omega) (by omega) ?_; intro v5 w5 ho5 hm5; have HO5 := Lib.hid ho5; have HM5 := Lib.hid hm5; clear ho5 hm5))
        obtain ⟨q1, q2, q3⟩ := HSTEP.out _ _ _ _ _ _ HW3.out HXI3.out HM5.out
        go_roundw
        case rel => exact ⟨k + 1, true, kl ++ [KD.mk x (.slice ya x.ps.length yc) (.slice za x.ks.length zc)], _, rfl, by omega, by go_num, rfl, HG1, by rw [List.length_append, kdL_app]; exact HO5.out, q1, q2, q3, HOK⟩
        case measure => simp [intOf]; omega
      | false =>
        by_cases he : x.nm = s
        · have d1 : (x.nm.toList == s.toList) = true := by rw [he]; simp
          obtain ⟨hk1, hg1⟩ := HPU.out k _ x hlt HG.out HX.out he
          have HK1 := Lib.hid hk1
          have HG1 := Lib.hid hg1
          have HOL : Hid (∀ q, ownS ov q → q < wr.heap.size) := fun q hq => (HOWN.out.lt q hq).2
          clear HG HX he hk1 hg1 HPU HOT HLA HXI
          go_upto_region 9 with (refine wpList_store_row rfl 25 (.tmp 11) (.tmp 33) rfl wr.heap.size #[.string x.nm, .slice ya x.ps.length yc, .slice za x.ks.length zc] rfl rfl _ _ HAN.out (infoNd _ _ _) rfl (nd_one _ _ _ _ _ _ _) ?_)
          rw [← hW2, ← hg11]
          clear hW2 hg11 HAN h1 h2 h3
          go_quiet (fail)
          have hw3 : Below wr.heap.size wr (W2.drewN nq) := HB2.out.trans ((below_drewN _ _).mono HB2.out.size)
          have HA11' := Lib.hid (HA11.out.drewN nq)
          have HOWN3 := Lib.hid (ow_below HOWN.out hw3)
          have HW3 := Lib.hid hw3
          clear hw3 HOWN HA11 HB2 e110 e111 e112 tc0
          have HGW : Hid (wr.heap.size ≤ g11) := HGW0.out
          generalize W2.drewN nq = W3 at *
          have HBW3 : Hid (Below w.heap.size w W3) := HBW.out.trans (HW3.out.mono HBW.out.size)
          have hs3 : W1.heap.size ≤ W3.heap.size := Nat.le_trans HBR.out.size HW3.out.size
          have a5 := HA5.out.below (HBR.out.trans (HW3.out.mono HBR.out.size)) HA5.out.lt
          have HA6' : Hid (Arr W3 g6 25 #[.string ⟨#[]⟩, .slice none 0 0, .slice none 0 0]) := HA6.out.below (HBR.out.trans (HW3.out.mono HBR.out.size)) HA6.out.lt
          obtain ⟨e110, e111, e112⟩ : W3.cell? ⟨g11, 0, none⟩ = some (.string x.nm) ∧ W3.cell? ⟨g11, 1, none⟩ = some (.slice ya x.ps.length yc) ∧ W3.cell? ⟨g11, 2, none⟩ = some (.slice za x.ks.length zc) := ⟨HA11'.out.cell 0, HA11'.out.cell 1, HA11'.out.cell 2⟩
          obtain ⟨c50, c51, c52⟩ : W3.cell? ⟨g5, 0, none⟩ = some (.int .i64 kd) ∧ W3.cell? ⟨g5, 1, none⟩ = some (.string cn) ∧ W3.cell? ⟨g5, 2, none⟩ = some (.string cv) := ⟨a5.cell 0, a5.cell 1, a5.cell 2⟩
          have HKP : Hid (∀ W', Below W3.heap.size W3 W' → (W'.cell? ⟨g11, 0, none⟩ = some (.string x.nm) ∧ W'.cell? ⟨g11, 1, none⟩ = some (.slice ya x.ps.length yc) ∧ W'.cell? ⟨g11, 2, none⟩ = some (.slice za x.ks.length zc) ∧ W'.cell? ⟨g5, 0, none⟩ = some (.int .i64 kd) ∧ W'.cell? ⟨g5, 1, none⟩ = some (.string cn) ∧ W'.cell? ⟨g5, 2, none⟩ = some (.string cv))) := fun W' h =>
            have M := Moved.of_below h (fun _ => False)
            ⟨cell_kept M id e110, cell_kept M id e111, cell_kept M id e112, cell_kept M id c50, cell_kept M id c51, cell_kept M id c52⟩
          have hL1' : (1 : Int) ≤ (L.length : Int) + 1 := by omega
          obtain ⟨Y, hY⟩ : ∃ Y, Y = (downR x L ⟨kd, cn, cv⟩).1 := ⟨_, rfl⟩
          obtain ⟨en, hen⟩ : ∃ en, en = (downR x L ⟨kd, cn, cv⟩).2 := ⟨_, rfl⟩
          have HRT : Hid (RdT w (if cap = 1 then some ⟨tb, tof, none⟩ else some ⟨tb, tof + 1, none⟩) L) := by
            have hcp := HCAP.out
            by_cases h1 : cap = 1
            · exact .inl (List.length_eq_zero_iff.1 (by omega))
            · refine .inr ⟨tb, tof + 1, if_neg h1, fun j hj => ?_⟩
              have h := HTC.out (j + 1) (by rw [List.length_cons]; omega)
              rw [show tof + 1 + j = tof + (j + 1) by omega]
              exact h
          have hrec1 := fun W' (h : Below W3.heap.size W3 W') => HREC0.out (fun q => G q ∧ q < w.heap.size) x (.slice ya x.ps.length yc) (.slice za x.ks.length zc) (if cap = 1 then some ⟨tb, tof, none⟩ else some ⟨tb, tof + 1, none⟩) (cap - 1) W' HXM.out (nd_below HXN.out (HBW3.out.trans (h.mono HBW3.out.size))) (HRT.out.below (HBW3.out.trans (h.mono HBW3.out.size))) (by have := HCAP.out; omega)
          rw [← hY, ← hen] at hrec1
          have HREC := Lib.hid hrec1
          rw [← hY] at HG1
          have HY := Lib.hid hY
          have HEN2 := Lib.hid hen
          have HGY : Hid (∀ B, W3.heap.size ≤ B → ∀ q, (OrNew (fun q => G q ∧ q < w.heap.size) B) q → (OrNew G w.heap.size q ∧ ¬ fpD g3 g6 ov q) ∧ q ≠ g11) := fun B hB q hq => by
            have h11 := HGW.out
            have h12 := HA11'.out.lt
            have h13 := HBR.out.size
            have h5 := HG3.out
            have h6 := HG6.out
            have h7 := HZ1.out
            have h8 := HL3.out
            have h9 := HL6.out
            have h10 := HW3.out.size
            rcases hq with hq | hq
            · refine ⟨⟨.inl hq.1, fun hf => ?_⟩, by omega⟩
              rcases hf with h | h | h
              · omega
              · omega
              · have := HBL.out q h; omega
            · refine ⟨⟨.inr (by omega), fun hf => ?_⟩, by omega⟩
              rcases hf with h | h | h
              · omega
              · omega
              · have := HOL.out q h; omega
          clear a5 hY hen hrec1 HREC0 HXN HXM HRT HTC
          have hbd : Below W3.heap.size W3 W3.drew := (Below.refl _ _).drew
          have hbe : Below W3.heap.size W3 (W3.alloc (.cells #[.string ⟨#[]⟩, .slice none 0 0, .slice none 0 0] 25)).drew := ((Below.refl _ _).alloc (Nat.le_refl _) _).drew
          have HCE : Hid (Arr (W3.alloc (.cells #[.string ⟨#[]⟩, .slice none 0 0, .slice none 0 0] 25)).drew W3.heap.size 25 #[.string ⟨#[]⟩, .slice none 0 0, .slice none 0 0]) := Arr.new W3 _ _
          have HAQ : Hid (∀ (w7 : World) (ua : Option Addr) (uc : Nat) (ub : Option Addr) (ud : Nat), NdAt w7 (OrNew (fun q => G q ∧ q < w.heap.size) W3.drew.heap.size) Y (.slice ua Y.ps.length uc) (.slice ub Y.ks.length ud) → Below W3.drew.heap.size W3.drew w7 → Below W3.heap.size W3 w7 ∧ Below W3.heap.size W3 (w7.alloc (.cells #[.string ⟨#[]⟩, .slice none 0 0, .slice none 0 0] 25)) ∧ Below W3.heap.size W3 (w7.alloc (.cells #[.string Y.nm, .slice ua Y.ps.length uc, .slice ub Y.ks.length ud] 25)) ∧
              Arr (w7.alloc (.cells #[.string Y.nm, .slice ua Y.ps.length uc, .slice ub Y.ks.length ud] 25)) w7.heap.size 25 #[.string Y.nm, .slice ua Y.ps.length uc, .slice ub Y.ks.length ud] ∧ NdAt (w7.alloc (.cells #[.string Y.nm, .slice ua Y.ps.length uc, .slice ub Y.ks.length ud] 25)) (fun q => (OrNew G w.heap.size q ∧ ¬ fpD g3 g6 ov q) ∧ q ≠ g11) Y (.slice ua Y.ps.length uc) (.slice ub Y.ks.length ud) ∧ Below W3.heap.size W3 (w7.alloc (.cells #[.string Y.nm, .slice ua Y.ps.length uc, .slice ub Y.ks.length ud] 25))) := fun w7 ua uc ub ud hk hb => by
            have h0 : Below W3.heap.size W3 w7 := hbd.trans hb
            have h2 : Below w7.heap.size w7 (w7.alloc (.cells #[.string Y.nm, .slice ua Y.ps.length uc, .slice ub Y.ks.length ud] 25)) := (Below.refl _ _).alloc (Nat.le_refl _) _
            have h3 : Below W3.heap.size W3 (w7.alloc (.cells #[.string Y.nm, .slice ua Y.ps.length uc, .slice ub Y.ks.length ud] 25)) := h0.trans (h2.mono h0.size)
            exact ⟨h0, h0.alloc h0.size _, h3, Arr.new w7 _ _, (nd_below hk h2).mono (HGY.out _ (Nat.le_refl _)), h3⟩
          have HBQ : Hid (∀ (w7 : World) (ua : Option Addr) (uc : Nat) (ub : Option Addr) (ud : Nat), NdAt w7 (OrNew (fun q => G q ∧ q < w.heap.size) ((W3.alloc (.cells #[.string ⟨#[]⟩, .slice none 0 0, .slice none 0 0] 25)).drew).heap.size) Y (.slice ua Y.ps.length uc) (.slice ub Y.ks.length ud) → Below ((W3.alloc (.cells #[.string ⟨#[]⟩, .slice none 0 0, .slice none 0 0] 25)).drew).heap.size (W3.alloc (.cells #[.string ⟨#[]⟩, .slice none 0 0, .slice none 0 0] 25)).drew w7 → Below W3.heap.size W3 w7 ∧
              w7.cell? ⟨W3.heap.size, 0, none⟩ = some (.string ⟨#[]⟩) ∧ w7.cell? ⟨W3.heap.size, 1, none⟩ = some (.slice none 0 0) ∧ w7.cell? ⟨W3.heap.size, 2, none⟩ = some (.slice none 0 0) ∧ w7.frozen? ⟨W3.heap.size, 0, none⟩ = false ∧ w7.frozen? ⟨W3.heap.size, 1, none⟩ = false ∧ w7.frozen? ⟨W3.heap.size, 2, none⟩ = false ∧ Below W3.heap.size W3 ((((w7).setCell ⟨W3.heap.size, 0, none⟩ (.string Y.nm)).setCell ⟨W3.heap.size, 1, none⟩ (.slice ua Y.ps.length uc)).setCell ⟨W3.heap.size, 2, none⟩ (.slice ub Y.ks.length ud)) ∧
              Arr ((((w7).setCell ⟨W3.heap.size, 0, none⟩ (.string Y.nm)).setCell ⟨W3.heap.size, 1, none⟩ (.slice ua Y.ps.length uc)).setCell ⟨W3.heap.size, 2, none⟩ (.slice ub Y.ks.length ud)) W3.heap.size 25 #[.string Y.nm, .slice ua Y.ps.length uc, .slice ub Y.ks.length ud] ∧ NdAt ((((w7).setCell ⟨W3.heap.size, 0, none⟩ (.string Y.nm)).setCell ⟨W3.heap.size, 1, none⟩ (.slice ua Y.ps.length uc)).setCell ⟨W3.heap.size, 2, none⟩ (.slice ub Y.ks.length ud)) (fun q => (OrNew G w.heap.size q ∧ ¬ fpD g3 g6 ov q) ∧ q ≠ g11) Y (.slice ua Y.ps.length uc) (.slice ub Y.ks.length ud) ∧ Below W3.heap.size W3 ((((w7).setCell ⟨W3.heap.size, 0, none⟩ (.string Y.nm)).setCell ⟨W3.heap.size, 1, none⟩ (.slice ua Y.ps.length uc)).setCell ⟨W3.heap.size, 2, none⟩ (.slice ub Y.ks.length ud))) := fun w7 ua uc ub ud hk hb => by
            have hA := HCE.out.below hb HCE.out.lt
            have h0 : Below W3.heap.size W3 w7 := hbe.trans (hb.mono hbe.size)
            have h3 : Below W3.heap.size W3 ((((w7).setCell ⟨W3.heap.size, 0, none⟩ (.string Y.nm)).setCell ⟨W3.heap.size, 1, none⟩ (.slice ua Y.ps.length uc)).setCell ⟨W3.heap.size, 2, none⟩ (.slice ub Y.ks.length ud)) := ((h0.setCell (Nat.le_refl _) _).setCell (Nat.le_refl _) _).setCell (Nat.le_refl _) _
            have M : Moved w7 ((((w7).setCell ⟨W3.heap.size, 0, none⟩ (.string Y.nm)).setCell ⟨W3.heap.size, 1, none⟩ (.slice ua Y.ps.length uc)).setCell ⟨W3.heap.size, 2, none⟩ (.slice ub Y.ks.length ud)) (fun k => k = W3.heap.size) (fun k => k = W3.heap.size) := ((Moved.grown (gr_cell w7 W3.heap.size 0 _) (fun k hk => by injection hk with hk; exact hk.symm) (fun k hk => .inl hk)).trans (Moved.grown (gr_cell _ W3.heap.size 1 _) (fun k hk => by injection hk with hk; exact hk.symm) (fun k hk => .inl hk))).trans (Moved.grown (gr_cell _ W3.heap.size 2 _) (fun k hk => by injection hk with hk; exact hk.symm) (fun k hk => .inl hk))
            have hz := HBW3.out.size
            have hz2 : ((W3.alloc (.cells #[.string ⟨#[]⟩, .slice none 0 0, .slice none 0 0] 25)).drew).heap.size = W3.heap.size + 1 := sz_alloc W3 _
            exact ⟨h0, hA.cell 0, hA.cell 1, hA.cell 2, hA.frozen 0, hA.frozen 1, hA.frozen 2, h3, ((hA.put 0 _).put 1 _).put 2 _, (hk.kept M (fun k hg e => by
              rcases hg with hg | hg
              · have := hg.2; omega
              · omega)).mono (HGY.out _ (by rw [hz2]; omega)), h3⟩
          go_upto_region 11 with fail
          go_cut [12, 13] (fun s12 s13 wx => ∃ (g12 : Nat) (ua : Option Addr) (uc : Nat) (ub : Option Addr) (ud : Nat), s12 = .pointer (some ⟨g12, 0, none⟩) ∧ s13 = .int .i64 (en : Nat) ∧ Arr wx g12 25 #[.string Y.nm, .slice ua Y.ps.length uc, .slice ub Y.ks.length ud] ∧ NdAt wx (fun q => (OrNew G w.heap.size q ∧ ¬ fpD g3 g6 ov q) ∧ q ≠ g11) Y (.slice ua Y.ps.length uc) (.slice ub Y.ks.length ud) ∧ Below W3.heap.size W3 wx)
          case first => as_aux_lemma =>
            refine wp_region_held_drew (S := fun (W' : World) => W'.cell? ⟨g11, 0, none⟩ = some (.string x.nm) ∧ W'.cell? ⟨g11, 1, none⟩ = some (.slice ya x.ps.length yc) ∧ W'.cell? ⟨g11, 2, none⟩ = some (.slice za x.ks.length zc) ∧ W'.cell? ⟨g5, 0, none⟩ = some (.int .i64 kd) ∧ W'.cell? ⟨g5, 1, none⟩ = some (.string cn) ∧ W'.cell? ⟨g5, 2, none⟩ = some (.string cv)) (by kernel_rfl) (by exact HKP.out _ hbd) (fun hHeld => ?_)
            refine takeH 0 45 rfl rfl (v := ?_) (by kernel_rfl) (by kernel_rfl) (by kernel_rfl) (fun _ _ _ h => h) (Or.inl ⟨by rfl, ?_⟩) hHeld ?_
            rotate_left 1
            · (intro w hSw; (try dsimp only at hSw); go_simp; try (with_reducible rfl))
            (try simp only [Act.put]); (try simp only [List.setIfInBounds_toArray]); (try simp only [List.set_cons_succ]); (try simp only [List.set_cons_zero])
            refine takeH 1 46 rfl rfl (v := ?_) (by kernel_rfl) (by kernel_rfl) (by kernel_rfl) (fun _ _ _ h => h) (Or.inl ⟨by rfl, ?_⟩) hHeld ?_
            rotate_left 1
            · (intro w hSw; (try dsimp only at hSw); go_simp; try (with_reducible rfl))
            (try simp only [Act.put]); (try simp only [List.setIfInBounds_toArray]); (try simp only [List.set_cons_succ]); (try simp only [List.set_cons_zero])
            refine takeH 2 47 rfl rfl (v := ?_) (by kernel_rfl) (by kernel_rfl) (by kernel_rfl) (fun _ _ _ h => h) (Or.inl ⟨by rfl, ?_⟩) hHeld ?_
            rotate_left 1
            · (intro w hSw; (try dsimp only at hSw); go_simp; try (with_reducible rfl))
            (try simp only [Act.put]); (try simp only [List.setIfInBounds_toArray]); (try simp only [List.set_cons_succ]); (try simp only [List.set_cons_zero])
            refine takeH 3 48 rfl rfl (v := ?_) (by kernel_rfl) (by kernel_rfl) (by kernel_rfl) (fun _ _ _ h => h) (Or.inl ⟨by rfl, ?_⟩) hHeld ?_
            rotate_left 1
            · (intro w hSw; (try dsimp only at hSw); go_simp; try (with_reducible rfl))
            (try simp only [Act.put]); (try simp only [List.setIfInBounds_toArray]); (try simp only [List.set_cons_succ]); (try simp only [List.set_cons_zero])
            refine wpAnyH_ready (rs := [4, 8]) (by kernel_rfl) (by simp) (AllReadyH.cons rfl (fun K hK => ?_) (AllReadyH.cons rfl (fun K hK => ?_) AllReadyH.nil))
            · go_simp
              refine (HREC.out _ hbd).mono ?_
              rintro e w7 ⟨u2, u3, rfl, hk7, s1⟩
              obtain ⟨ua, ub, uc, ud, rfl, rfl, _⟩ := nd_shape hk7
              obtain ⟨z1, z2, z3, z4⟩ := HAQ.out w7 ua uc ub ud hk7 s1
              (try dsimp only)
              refine hK.out _ _ (by exact HKP.out _ z1) (fun hHeld => ?_)
              clear hK K
              (try simp only [Act.put]); (try simp only [List.setIfInBounds_toArray]); (try simp only [List.set_cons_succ]); (try simp only [List.set_cons_zero])
              refine takeH 5 44 rfl rfl (v := ?_) (by kernel_rfl) (by kernel_rfl) (by kernel_rfl) (fun _ _ _ h => h) (Or.inl ⟨by rfl, ?_⟩) hHeld ?_
              rotate_left 1
              · (intro w hSw; (try dsimp only at hSw); go_simp; try (with_reducible rfl))
              (try simp only [Act.put]); (try simp only [List.setIfInBounds_toArray]); (try simp only [List.set_cons_succ]); (try simp only [List.set_cons_zero])
              refine takeH 6 50 rfl rfl (v := ?_) (by kernel_rfl) (by kernel_rfl) (by kernel_rfl) (fun _ _ _ h => h) (Or.inl ⟨by rfl, ?_⟩) hHeld ?_
              rotate_left 1
              · (intro w hSw; (try dsimp only at hSw); go_simp; try (with_reducible rfl))
              (try simp only [Act.put]); (try simp only [List.setIfInBounds_toArray]); (try simp only [List.set_cons_succ]); (try simp only [List.set_cons_zero])
              refine takeH 7 51 rfl rfl (v := ?_) (by kernel_rfl) (by kernel_rfl) (by kernel_rfl) (fun _ _ _ h => h) (Or.inl ⟨by rfl, ?_⟩) hHeld ?_
              rotate_left 1
              · (intro w hSw; (try dsimp only at hSw); go_simp; try (with_reducible rfl))
              (try simp only [Act.put]); (try simp only [List.setIfInBounds_toArray]); (try simp only [List.set_cons_succ]); (try simp only [List.set_cons_zero])
              refine wpAnyH_ready (rs := [8]) (by kernel_rfl) (by simp) (AllReadyH.cons rfl (fun K hK => ?_) AllReadyH.nil)
              go_simp
              refine hK.out _ _ (by exact HKP.out _ z2) (fun hHeld => ?_)
              clear hK K
              (try simp only [Act.put]); (try simp only [List.setIfInBounds_toArray]); (try simp only [List.set_cons_succ]); (try simp only [List.set_cons_zero])
              refine wpAnyH_ready (rs := [9]) (by kernel_rfl) (by simp) (AllReadyH.cons rfl (fun K hK => ?_) AllReadyH.nil)
              go_simp
              refine hK.out _ _ (by exact HKP.out _ z3) (fun hHeld => ?_)
              clear hK K
              (try simp only [Act.put]); (try simp only [List.setIfInBounds_toArray]); (try simp only [List.set_cons_succ]); (try simp only [List.set_cons_zero])
              refine wpAnyH_ready (rs := [10]) (by kernel_rfl) (by simp) (AllReadyH.cons rfl (fun K hK => ?_) AllReadyH.nil)
              go_simp
              refine hK.out _ _ (by exact HKP.out _ z3) (fun hHeld => ?_)
              clear hK K
              (try simp only [Act.put]); (try simp only [List.setIfInBounds_toArray]); (try simp only [List.set_cons_succ]); (try simp only [List.set_cons_zero])
              refine wpAnyH_done (by kernel_rfl) ?_ _
              have HE := Lib.hid z4
              clear HREC
              generalize (if cap = 1 then some (⟨tb, tof, none⟩ : Addr) else some ⟨tb, tof + 1, none⟩) = TA at *
              go_wp2_with fail
              go_meet
              exact ⟨_, _, _, _, _, rfl, rfl, HE.out⟩
            · go_simp
              refine hK.out _ _ (by exact HKP.out _ hbe) (fun hHeld => ?_)
              clear hK K
              (try simp only [Act.put]); (try simp only [List.setIfInBounds_toArray]); (try simp only [List.set_cons_succ]); (try simp only [List.set_cons_zero])
              refine wpAnyH_ready (rs := [4]) (by kernel_rfl) (by simp) (AllReadyH.cons rfl (fun K hK => ?_) AllReadyH.nil)
              go_simp
              refine (HREC.out _ hbe).mono ?_
              rintro e w7 ⟨u2, u3, rfl, hk7, s1⟩
              obtain ⟨ua, ub, uc, ud, rfl, rfl, _⟩ := nd_shape hk7
              obtain ⟨z1, e0, e1, e2, f0, f1, f2, z3, z4⟩ := HBQ.out w7 ua uc ub ud hk7 s1
              (try dsimp only)
              refine hK.out _ _ (by exact HKP.out _ z1) (fun hHeld => ?_)
              clear hK K
              (try simp only [Act.put]); (try simp only [List.setIfInBounds_toArray]); (try simp only [List.set_cons_succ]); (try simp only [List.set_cons_zero])
              refine takeH 5 44 rfl rfl (v := ?_) (by kernel_rfl) (by kernel_rfl) (by kernel_rfl) (fun _ _ _ h => h) (Or.inl ⟨by rfl, ?_⟩) hHeld ?_
              rotate_left 1
              · (intro w hSw; (try dsimp only at hSw); go_simp; try (with_reducible rfl))
              (try simp only [Act.put]); (try simp only [List.setIfInBounds_toArray]); (try simp only [List.set_cons_succ]); (try simp only [List.set_cons_zero])
              refine takeH 6 50 rfl rfl (v := ?_) (by kernel_rfl) (by kernel_rfl) (by kernel_rfl) (fun _ _ _ h => h) (Or.inl ⟨by rfl, ?_⟩) hHeld ?_
              rotate_left 1
              · (intro w hSw; (try dsimp only at hSw); go_simp; try (with_reducible rfl))
              (try simp only [Act.put]); (try simp only [List.setIfInBounds_toArray]); (try simp only [List.set_cons_succ]); (try simp only [List.set_cons_zero])
              refine takeH 7 51 rfl rfl (v := ?_) (by kernel_rfl) (by kernel_rfl) (by kernel_rfl) (fun _ _ _ h => h) (Or.inl ⟨by rfl, ?_⟩) hHeld ?_
              rotate_left 1
              · (intro w hSw; (try dsimp only at hSw); go_simp; try (with_reducible rfl))
              (try simp only [Act.put]); (try simp only [List.setIfInBounds_toArray]); (try simp only [List.set_cons_succ]); (try simp only [List.set_cons_zero])
              refine wpAnyH_ready (rs := [9]) (by kernel_rfl) (by simp) (AllReadyH.cons rfl (fun K hK => ?_) AllReadyH.nil)
              go_simp
              refine hK.out _ _ (by exact HKP.out _ z3) (fun hHeld => ?_)
              clear hK K
              (try simp only [Act.put]); (try simp only [List.setIfInBounds_toArray]); (try simp only [List.set_cons_succ]); (try simp only [List.set_cons_zero])
              refine wpAnyH_ready (rs := [10]) (by kernel_rfl) (by simp) (AllReadyH.cons rfl (fun K hK => ?_) AllReadyH.nil)
              go_simp
              refine hK.out _ _ (by exact HKP.out _ z3) (fun hHeld => ?_)
              clear hK K
              (try simp only [Act.put]); (try simp only [List.setIfInBounds_toArray]); (try simp only [List.set_cons_succ]); (try simp only [List.set_cons_zero])
              refine wpAnyH_done (by kernel_rfl) ?_ _
              have HE := Lib.hid z4
              clear HREC
              generalize (if cap = 1 then some (⟨tb, tof, none⟩ : Addr) else some ⟨tb, tof + 1, none⟩) = TA at *
              go_wp2_with fail
              go_meet
              exact ⟨_, _, _, _, _, rfl, rfl, HE.out⟩
          case rest => as_aux_lemma =>
            obtain ⟨g12, ua, uc, ub, ud, rfl, rfl, R1, R2, R3⟩ := hcut
            have R1 := Lib.hid R1
            have R2 := Lib.hid R2
            have R3 := Lib.hid R3
            have HW4 : Hid (Below wr.heap.size wr wc) := HW3.out.trans (R3.out.mono HW3.out.size)
            clear HREC HKP HAQ HBQ HCE hbd hbe e110 e111 e112 c50 c51 c52
            by_cases h0 : en = 0
            · have d0 : (((en : Nat) : Int) != 0) = false := by rw [h0]; rfl
              have HOK1 : Hid (true = true → ∃ x, kidR n s = some x ∧ (downR x L ⟨kd, cn, cv⟩).2 = 0) := fun _ => ⟨x, HK1.out, by rw [← HEN2.out]; exact h0⟩
              have HA11X := Lib.hid (HA11'.out.below R3.out HA11'.out.lt)
              obtain ⟨W5, hW5⟩ : ∃ W5, W5 = wc.setRow g11 #[.string Y.nm, .slice ua Y.ps.length uc, .slice ub Y.ks.length ud] := ⟨_, rfl⟩
              have hg11w : wr.heap.size ≤ g11 := HGW.out
              have HA5X : Hid (Arr W5 g11 25 #[.string Y.nm, .slice ua Y.ps.length uc, .slice ub Y.ks.length ud]) := by rw [hW5]; exact HA11X.out.row _
              have HW5 : Hid (Below wr.heap.size wr W5) := by rw [hW5]; exact below_setRow HW4.out hg11w _
              have HOWN5 : Hid (W5.ownsRow 0 25 3 ov kl.length (kdL kl)) := by
                rw [hW5]
                exact (moved_setRow wc g11 _).row (ow_below HOWN3.out R3.out) (fun q hq e => by have := HOL.out q hq; omega)
              have HY5 : Hid (NdAt W5 (fun q => OrNew G w.heap.size q ∧ ¬ fpD g3 g6 ov q) Y (.slice ua Y.ps.length uc) (.slice ub Y.ks.length ud)) := by
                rw [hW5]
                exact (R2.out.kept (moved_setRow wc g11 _) (fun q hq e => hq.2 e)).mono (fun q hq => hq.1)
              have HGM : Hid ((kl ++ [KD.mk Y (.slice ua Y.ps.length uc) (.slice ub Y.ks.length ud)]).map KD.nd = kl.map KD.nd ++ [Y]) := by unfold Hid; simp
              rw [← HGM.out] at HG1
              clear h0 HGM HK1 HOK
              go_upto_region 15 with (first | (refine wpList_load_row rfl 25 (.tmp 12) rfl g12 rfl _ #[.string Y.nm, .slice ua Y.ps.length uc, .slice ub Y.ks.length ud] _ _ R1.out Tryd.underlying25 rfl (infoNd _ _ _) ?_) | (refine wpList_store_row rfl 25 (.tmp 11) (.tmp 56) rfl g11 #[.string Y.nm, .slice ua Y.ps.length uc, .slice ub Y.ks.length ud] rfl rfl _ _ HA11X.out (infoNd _ _ _) rfl (nd_one _ _ _ _ _ _ _) ?_))
              rw [← hW5]
              clear hW5
              go_wp2_with (first | (refine wpList_load_row rfl 25 (.tmp 11) rfl g11 rfl _ #[.string Y.nm, .slice ua Y.ps.length uc, .slice ub Y.ks.length ud] _ _ HA5X.out Tryd.underlying25 rfl (infoNd _ _ _) ?_) | (at_builtin; refine append_new rfl (.tmp 57) (.tmp 59) 23 rfl 25 3 64 HEL _ kl.length (kdL kl) rfl HOWN5.out #[.string Y.nm, .slice ua Y.ps.length uc, .slice ub Y.ks.length ud] rfl (nd_oneL _ _ _ _ _ _ _) W5.heap.size rfl rfl (by unfold maxLen; omega) (by omega) ?_; intro v5 w5 ho5 hm5; have HO5 := Lib.hid ho5; have HM5 := Lib.hid hm5; clear ho5 hm5))
              obtain ⟨q1, q2, q3⟩ := HSTEP.out _ _ _ _ _ _ HW5.out HY5.out HM5.out
              go_roundw
              case rel => exact ⟨k + 1, true, kl ++ [KD.mk Y (.slice ua Y.ps.length uc) (.slice ub Y.ks.length ud)], _, rfl, by omega, by go_num, rfl, HG1, by rw [List.length_append, kdL_app]; exact HO5.out, q1, q2, q3, HOK1⟩
              case measure => simp [intOf]; omega
            · have d0 : (((en : Nat) : Int) != 0) = true := by simp; omega
              have HE : Hid (R = (nd0, en)) := by
                unfold Hid
                rw [HEN2.out]
                exact HBAD.out x HK1.out (by rw [← HEN2.out]; exact h0)
              have HA6X := Lib.hid (HA6'.out.below R3.out HA6'.out.lt)
              have HBF : Hid (Below w.heap.size w wc) := HBW.out.trans (HW4.out.mono HBW.out.size)
              clear h0
              go_wp2_with (refine wpList_store_row rfl 25 (.tmp 6) (.tmp 54) rfl g6 #[.string ⟨#[]⟩, .slice none 0 0, .slice none 0 0] rfl rfl _ _ HA6X.out (infoNd _ _ _) rfl zl_one ?_)
              exact bodyPost_ret (results_rowN rfl _ _ g6 _ #[.string ⟨#[]⟩, .slice none 0 0, .slice none 0 0] _ _ rfl ((HA6X.out).row _) Tryd.underlying25 rfl (infoNd _ _ _)) rfl ⟨_, _, by rw [HE.out]; rfl, by rw [HE.out]; exact nd0_at _ _, below_setRow HBF.out HG6.out _⟩
        · have d1 : (x.nm.toList == s.toList) = false := by simpa using str_ne12 he
          have HG1 := Lib.hid (HOT.out k _ hlt HG.out (by rw [HX.out]; exact he))
          rw [HX.out] at HG1
          have HGM : Hid ((kl ++ [KD.mk x (.slice ya x.ps.length yc) (.slice za x.ks.length zc)]).map KD.nd = kl.map KD.nd ++ [x]) := by unfold Hid; simp
          rw [← HGM.out] at HG1
          clear HG HX HGM he
          go_upto_region 9 with (refine wpList_store_row rfl 25 (.tmp 11) (.tmp 33) rfl wr.heap.size #[.string x.nm, .slice ya x.ps.length yc, .slice za x.ks.length zc] rfl rfl _ _ HAN.out (infoNd _ _ _) rfl (nd_one _ _ _ _ _ _ _) ?_)
          rw [← hW2, ← hg11]
          clear hW2 hg11 HAN h1 h2 h3
          go_quiet (fail)
          have hw3 : Below wr.heap.size wr (W2.drewN nq) := HB2.out.trans ((below_drewN _ _).mono HB2.out.size)
          have HA11' := Lib.hid (HA11.out.drewN nq)
          have HOWN3 := Lib.hid (ow_below HOWN.out hw3)
          have HW3 := Lib.hid hw3
          have HXI3 := Lib.hid (HXI.out _ hw3)
          clear hw3
          generalize W2.drewN nq = W3 at *
          go_wp2_with (first | (refine wpList_load_row rfl 25 (.tmp 11) rfl g11 rfl _ #[.string x.nm, .slice ya x.ps.length yc, .slice za x.ks.length zc] _ _ HA11'.out Tryd.underlying25 rfl (infoNd _ _ _) ?_) | (at_builtin; refine append_new rfl (.tmp 57) (.tmp 59) 23 rfl 25 3 64 HEL _ kl.length (kdL kl) rfl HOWN3.out #[.string x.nm, .slice ya x.ps.length yc, .slice za x.ks.length zc] rfl (nd_oneL _ _ _ _ _ _ _) W3.heap.size rfl rfl (by unfold maxLen; omega) (by omega) ?_; intro v5 w5 ho5 hm5; have HO5 := Lib.hid ho5; have HM5 := Lib.hid hm5; clear ho5 hm5))
          obtain ⟨q1, q2, q3⟩ := HSTEP.out _ _ _ _ _ _ HW3.out HXI3.out HM5.out
          go_roundw
          case rel => exact ⟨k + 1, false, kl ++ [KD.mk x (.slice ya x.ps.length yc) (.slice za x.ks.length zc)], _, rfl, by omega, by go_num, rfl, HG1, by rw [List.length_append, kdL_app]; exact HO5.out, q1, q2, q3, HOK⟩
          case measure => simp [intOf]; omega
    · obtain rfl : k = n.ks.length := by omega
      have HBF := HBW
      cases is with
      | false =>
        have HE : Hid (R = (nd0, 8)) := HNO.out (HEN.out _ HG.out).1
        have HA6X := Lib.hid hA6
        clear HG hown hbl HK hb HOK hA3 hA5 hA6 HNA
        go_wp2_with (refine wpList_store_row rfl 25 (.tmp 6) (.tmp 63) rfl g6 #[.string ⟨#[]⟩, .slice none 0 0, .slice none 0 0] rfl rfl _ _ HA6X.out (infoNd _ _ _) rfl zl_one ?_)
        exact bodyPost_ret (results_rowN rfl _ _ g6 _ #[.string ⟨#[]⟩, .slice none 0 0, .slice none 0 0] _ _ rfl ((HA6X.out).row _) Tryd.underlying25 rfl (infoNd _ _ _)) rfl ⟨_, _, by rw [HE.out]; rfl, by rw [HE.out]; exact nd0_at _ _, below_setRow HBF.out HG6.out _⟩
      | true =>
        obtain ⟨x, hx1, hx2⟩ := HOK.out rfl
        have HE : Hid (R = (.mk n.nm n.ps T, 0)) := HYES.out x hx1 hx2
        have hTk := HEY.out _ HG.out
        obtain ⟨va, vc, hve, _⟩ := row_form hown
        subst hve
        have f32 : wr.frozen? ⟨g3, 2, none⟩ = false := hA3.frozen 2
        have hm := moved_two wr g3 g6 2 (.slice va kl.length vc) #[.string n.nm, .slice A2 n.ps.length pc, .slice va kl.length vc]
        have HA3' : Hid (Arr (wr.setCell ⟨g3, 2, none⟩ (.slice va kl.length vc)) g3 25 #[.string n.nm, .slice A2 n.ps.length pc, .slice va kl.length vc]) := hA3.put 2 _
        have HA6' : Hid (Arr (wr.setCell ⟨g3, 2, none⟩ (.slice va kl.length vc)) g6 25 #[.string ⟨#[]⟩, .slice none 0 0, .slice none 0 0]) := hA6.gr (gr_cell wr g3 2 _) (fun e => HNE.out (by injection e))
        have HBF2 : Hid (Below w.heap.size w ((wr.setCell ⟨g3, 2, none⟩ (.slice va kl.length vc)).setRow g6 #[.string n.nm, .slice A2 n.ps.length pc, .slice va kl.length vc])) := below_setRow (HBW.out.setCell (p := ⟨g3, 2, none⟩) HG3.out _) HG6.out _
        have HND : Hid (NdAt ((wr.setCell ⟨g3, 2, none⟩ (.slice va kl.length vc)).setRow g6 #[.string n.nm, .slice A2 n.ps.length pc, .slice va kl.length vc]) (OrNew G w.heap.size) (.mk n.nm n.ps T) (.slice A2 n.ps.length pc) (.slice va kl.length vc)) := by
          have h3 := HG3.out
          have h6 := HG6.out
          have h7 := HZ1.out
          have h8 := HL3.out
          have h9 := HL6.out
          have hn := nd_two (nd_below HNA.out HBW.out) hm (fun k hk hf => by rcases hf with e | e <;> omega)
          have h := nd_withKids hn (hm.row hown (fun q hq hf => by
            have := hbl q hq
            rcases hf with e | e <;> omega)) (fun q hq => .inr (Nat.le_trans h7 (hbl q hq))) (fun c hc => ((HK.out c hc).kept hm (fun q hq hf => hq.2.2 (hf.imp id .inl))).mono (fun q hq => hq.2.1))
          rw [← hTk] at h
          exact h
        obtain ⟨W4, hW4⟩ : ∃ W4, W4 = wr.setCell ⟨g3, 2, none⟩ (.slice va kl.length vc) := ⟨_, rfl⟩
        rw [← hW4] at HA3' HA6' HBF2 HND
        clear HG hown hbl HK hb HOK hA3 hA5 hA6 HNA hm hTk hx1 hx2
        go_upto_region 19 with fail
        rw [← hW4]
        clear hW4
        go_wp2_with (first | (refine wpList_load_row rfl 25 (.tmp 3) rfl g3 rfl _ #[.string n.nm, .slice A2 n.ps.length pc, .slice va kl.length vc] _ _ HA3'.out Tryd.underlying25 rfl (infoNd _ _ _) ?_) | (refine wpList_store_row rfl 25 (.tmp 6) (.tmp 66) rfl g6 #[.string n.nm, .slice A2 n.ps.length pc, .slice va kl.length vc] rfl rfl _ _ HA6'.out (infoNd _ _ _) rfl (nd_one _ _ _ _ _ _ _) ?_))
        exact bodyPost_ret (results_rowN rfl _ _ g6 _ #[.string n.nm, .slice A2 n.ps.length pc, .slice va kl.length vc] _ _ rfl (HA6'.out.row _) Tryd.underlying25 rfl (infoNd _ _ _)) rfl ⟨_, _, by rw [HE.out]; rfl, by rw [HE.out]; exact HND.out, HBF2.out⟩
end Go.Proofs.YtfcclppgjfkfoaaDoor
