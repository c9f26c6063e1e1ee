/- The functions that edit's Unset and Drop pass down. Conditions: a node of one's own of at most 10^6 properties and kids; names of at most 10^6 bytes. -/
import Derived.Test.YtfcclppgjfkfoaaGreatDoorMg26
import Derived.Test.YtfcclppgjfkfoaaGreatDoorMg28
import Derived.Test.YtfcclppgjfkfoaaGreatDoorMg3
namespace Go.Proofs.YtfcclppgjfkfoaaGreatDoor
open Go.RowKit

theorem flat_take {α : Type} {f : α → List Value} {n : Nat} (hf : ∀ x, (f x).length = n) : ∀ (l : List α) (k : Nat), (l.flatMap f).take (k * n) = (l.take k).flatMap f ∧ (l.flatMap f).drop (k * n) = (l.drop k).flatMap f
  | [], k => by simp
  | x :: l, 0 => by simp
  | x :: l, k + 1 => by
    have ih := flat_take hf l k
    rw [List.flatMap_cons, List.take_succ_cons, List.drop_succ_cons, List.flatMap_cons]
    have e : (k + 1) * n = (f x).length + k * n := by rw [hf, Nat.add_mul, Nat.one_mul, Nat.add_comm]
    rw [e, List.take_length_add_append, List.drop_length_add_append, ih.1, ih.2]
    exact ⟨rfl, rfl⟩
theorem prL_del (l : List PR) (k : Nat) : (prL l).take (k * 2) ++ (prL l).drop ((k + 1) * 2) = prL (l.take k ++ l.drop (k + 1)) := by
  rw [prL_app]
  exact congr (congrArg _ (flat_take (f := prl) (n := 2) (fun _ => rfl) l k).1) (flat_take (f := prl) (n := 2) (fun _ => rfl) l (k + 1)).2
theorem kdL_del (l : List KD) (k : Nat) : (kdL l).take (k * 3) ++ (kdL l).drop ((k + 1) * 3) = kdL (l.take k ++ l.drop (k + 1)) := by
  rw [kdL_app]
  exact congr (congrArg _ (flat_take (f := kdl) (n := 3) (fun _ => rfl) l k).1) (flat_take (f := kdl) (n := 3) (fun _ => rfl) l (k + 1)).2
theorem moved_store {w w2 : World} {b o : Nat} {p p' : Value} (hm : Moved w w2 (ownS p) (ownS p')) : Moved w (w2.setCell ⟨b, o, none⟩ p') (fun k => k = b ∨ ownS p k) (fun k => k = b ∨ ownS p' k) :=
  (hm.inside (G := fun k => k = b ∨ ownS p k) (G' := fun k => k = b ∨ ownS p' k) (fun _ h => .inr h) (fun k hk => hk.elim (fun h => .inl (.inl h)) (fun h => (hm.foot k h).imp .inr .inr))).trans (Moved.grown (gr_cell w2 b o p') (fun k hk => by injection hk with hk; exact .inl hk.symm) (fun k hk => .inl hk))
/-- A node's properties have been changed, and are stored. -/
theorem store_props {w w2 : World} {b o lo hi B : Nat} {cur : Array Value} {n : ND} {p q p' : Value} {ps' : List PR} (h : At17 w b o cur lo hi n p q) (hm : Moved w w2 (ownS p) (ownS p')) (hrow : w2.ownsRow B 92 2 p' ps'.length (prL ps')) :
    w2.cell? ⟨b, o + 1, none⟩ = some p ∧ w2.frozen? ⟨b, o + 1, none⟩ = false ∧ Post17 w (w2.setCell ⟨b, o + 1, none⟩ p') b o cur lo hi (.mk n.nm ps' n.ks, 0) := by
  have ha := hm.arr h.arr (at_props h).2
  have hlt : o + 1 < cur.size := (Array.getElem?_eq_some_iff.1 h.c1).1
  refine ⟨by rw [ha.cell]; exact h.c1, ha.frozen _, post_props h (moved_store hm) (ha.put (o + 1) p') (by rw [Array.size_setIfInBounds]) (fun j hj => by rw [Array.getElem?_setIfInBounds, if_neg (fun e => hj e.symm)]) (by rw [Array.getElem?_setIfInBounds, if_pos rfl, if_pos hlt]) (hrow.kept (gr_cell w2 b (o + 1) p') (.inr fun e => ow_arr ha hrow (Ne.symm tyPN) e.symm))⟩

set_option maxHeartbeats 1600000 in
set_option maxRecDepth 100000 in
theorem unset_ok (w0 : World) (bn : Nat) (nm : ByteArray) (h : w0.cell? ⟨bn, 0, none⟩ = some (.string nm)) : ChangeOk w0 (.func (.func 46) #[] #[.pointer (some ⟨bn, 0, none⟩)]) ⟨2, nm, ⟨#[]⟩⟩ := by
  refine ⟨_, _, rfl, Tryz.call46, fun w b o cur lo hi n p q hb hA hl1 _ => ?_⟩
  obtain ⟨A, K, pc, kc, rfl, rfl, c0, c1, c2, hN, f1, f2⟩ := at_shape hA
  have cn : w.cell? ⟨bn, 0, none⟩ = some (.string nm) := cell_kept (Moved.of_below hb (fun _ => False)) id h
  have HPC := Lib.hid (property_any _ A pc n.ps b o nm w (nd_props hN).1 (by omega) c1)
  have HA := Lib.hid hA
  clear hA hN f1 f2 h hb c0 c2
  go_enter Tryz.func46, Tryz.ntmps46
  go_wp2_with fail
  refine HPC.out.mono ?_
  rintro e w1 ⟨⟨r, rfl, hr⟩, hb1⟩
  have HA1 := Lib.hid (HA.out.below hb1)
  rcases hr with ⟨rfl, hno⟩ | ⟨k, rfl, hk, hy, hlt⟩
  · have HE : Hid (hereR n ⟨2, nm, ⟨#[]⟩⟩ = (nd0, 8)) := by
      unfold Hid hereR
      rw [if_neg (show ¬ ((2 : Int) = 1) by decide), if_pos rfl, props_miss (c := ⟨2, nm, ⟨#[]⟩⟩) hno]; rfl
    have HF : Hid (Post17 w w1 b o cur lo hi (nd0, 8)) := post_no HA.out hb1 (by decide)
    clear hb1 hno HPC c1 cn
    go_wp2
    go_ret
    exact ⟨by rw [HE.out]; rfl, by rw [HE.out]; exact HF.out⟩
  · have HE : Hid (hereR n ⟨2, nm, ⟨#[]⟩⟩ = (.mk n.nm (n.ps.take k ++ n.ps.drop (k + 1)) n.ks, 0)) := by
      unfold Hid hereR
      rw [if_neg (show ¬ ((2 : Int) = 1) by decide), if_pos rfl, props_hit (c := ⟨2, nm, ⟨#[]⟩⟩) hk hlt (of_decide_eq_true hy)]
      simp
    obtain ⟨g, rfl⟩ : ∃ g, A = some ⟨g, 0, none⟩ := by
      obtain ⟨A', pc', e, _, _, h0⟩ := row_form (at_props HA1.out).1
      injection e with e
      rcases h0 with h0 | ⟨g, h0, _⟩
      · omega
      · exact ⟨g, e.trans h0⟩
    have hdel := delProp_any lo n.ps.length k g pc (prL n.ps) w1 (at_props HA1.out).1 hk (prL_one n.ps)
    rw [prL_del] at hdel
    have HDEL := Lib.hid hdel
    have d0 : decide ((k : Int) < 0) = false := decide_eq_false (by omega)
    have c1' : w1.cell? ⟨b, o + 1, none⟩ = some (.slice (some ⟨g, 0, none⟩) n.ps.length pc) := by rw [HA1.out.arr.cell]; exact HA1.out.c1
    have HLN : Hid ((n.ps.take k ++ n.ps.drop (k + 1)).length = n.ps.length - 1) := by unfold Hid; rw [List.length_append, List.length_take, List.length_drop]; omega
    have HB1 := Lib.hid hb1
    clear hb1 hdel hy hlt HPC c1 cn
    go_wp2_with fail
    refine HDEL.out.mono ?_
    rintro e w2 ⟨rfl, hrow, hm⟩
    obtain ⟨s1, s2, s3⟩ := store_props (ps' := n.ps.take k ++ n.ps.drop (k + 1)) HA1.out hm (by rw [HLN.out]; exact hrow)
    have HF := Lib.hid (s3.later HB1.out)
    clear hrow hm s3 HDEL c1'
    go_wp2
    go_ret
    exact ⟨by rw [HE.out]; rfl, by rw [HE.out]; exact HF.out⟩
/-- A node's kids have been changed, and are stored. -/
theorem store_kids {w : World} {b o lo hi : Nat} {cur : Array Value} {n : ND} {p q : Value} (h : At17 w b o cur lo hi n p q) : ∃ kl : List KD, kl.map KD.nd = n.ks ∧ w.ownsRow lo 28 3 q kl.length (kdL kl) ∧ (∀ x ∈ kdL kl, x.oneCell' = true) ∧
    ∀ (w2 : World) (kl' : List KD) (q' : Value) (B : Nat), Moved w w2 (ownS q) (ownS q') → w2.ownsRow B 28 3 q' kl'.length (kdL kl') → (∀ c ∈ kl', c ∈ kl ∨ ∃ nm, c = ⟨.mk nm [] [], .slice none 0 0, .slice none 0 0⟩) →
      w2.cell? ⟨b, o + 2, none⟩ = some q ∧ w2.frozen? ⟨b, o + 2, none⟩ = false ∧ Post17 w (w2.setCell ⟨b, o + 2, none⟩ q') b o cur lo hi (.mk n.nm n.ps (kl'.map KD.nd), 0) := by
  obtain ⟨kl, h1, h2, h3, h4, h5⟩ := post_kids h
  refine ⟨kl, h1, h2, h3, fun w2 kl' q' B hm hrow hk => ?_⟩
  have ha := hm.arr h.arr h4
  have hlt : o + 2 < cur.size := (Array.getElem?_eq_some_iff.1 h.c2).1
  have hb := h.arr.lt
  have hqb : q'.ownBlock ≠ some b := fun e => by
    rcases hm.foot b e with e | e
    · exact h4 e
    · omega
  exact ⟨by rw [ha.cell]; exact h.c2, ha.frozen _, h5 _ _ _ _ _ (moved_store hm) (ha.put (o + 2) q') (by rw [Array.size_setIfInBounds]) (fun j hj => by rw [Array.getElem?_setIfInBounds, if_neg (fun e => hj e.symm)]) (by rw [Array.getElem?_setIfInBounds, if_pos rfl, if_pos hlt]) hqb (hrow.kept (gr_cell w2 b (o + 2) q') (.inr hqb)) hk⟩

set_option maxHeartbeats 1600000 in
set_option maxRecDepth 100000 in
theorem drop_ok (w0 : World) (bs bl : Nat) (T : Option Addr) (cap : Nat) (L : List ByteArray) (k : Nat) (vl : ByteArray) (hk : k < L.length) (h1 : w0.cell? ⟨bs, 0, none⟩ = some (.slice T L.length cap)) (h2 : w0.cell? ⟨bl, 0, none⟩ = some (.int .i64 (k : Int))) (hr : RdT w0 T L) :
    ChangeOk w0 (.func (.func 51) #[] #[.pointer (some ⟨bs, 0, none⟩), .pointer (some ⟨bl, 0, none⟩)]) ⟨4, L.getD k ByteArray.empty, vl⟩ := by
  refine ⟨_, _, rfl, Tryz.call51, fun w b o cur lo hi n p q hb hA _ hl2 => ?_⟩
  obtain ⟨A, K, pc, kc, rfl, rfl, c0, c1, c2, hN, f1, f2⟩ := at_shape hA
  obtain ⟨tb, tof, s, rfl, t0, HX⟩ := (hr.below hb).at_ hk
  have cs : w.cell? ⟨bs, 0, none⟩ = some (.slice (some ⟨tb, tof, none⟩) L.length cap) := cell_kept (Moved.of_below hb (fun _ => False)) id h1
  have cl : w.cell? ⟨bl, 0, none⟩ = some (.int .i64 (k : Int)) := cell_kept (Moved.of_below hb (fun _ => False)) id h2
  have HPC := Lib.hid (child_any _ n _ K kc b o s w hN (by omega) c2)
  have HA := Lib.hid hA
  have hki : (k : Int) < (L.length : Int) := by omega
  show Calls _ _ _ _ fun e w' => e = .returned (.int .i64 ((hereR n ⟨4, L.getD k ByteArray.empty, vl⟩).2 : Nat)) ∧ Post17 w w' b o cur lo hi (hereR n ⟨4, L.getD k ByteArray.empty, vl⟩)
  rw [HX.out]
  have HH : Hid (hereR n ⟨4, s, vl⟩ = if (kidR n s).isSome = true then (.mk n.nm n.ps (withoutR s n.ks), 0) else (nd0, 8)) := by
    unfold Hid hereR
    rw [if_neg (show ¬ ((4 : Int) = 1) by decide), if_neg (show ¬ ((4 : Int) = 2) by decide), if_neg (show ¬ ((4 : Int) = 3) by decide)]
  clear hA hN f1 f2 h1 h2 hr hb c0 c1 HX
  go_enter Tryz.func51, Tryz.ntmps51
  go_wp2_with fail
  refine HPC.out.mono ?_
  rintro e w1 ⟨⟨r, rfl, hr⟩, hb1⟩
  have HA1 := Lib.hid (HA.out.below hb1)
  rcases ix_kid hr with ⟨rfl, hno⟩ | ⟨i, rfl, hi', hyes, _, _, hwo⟩
  · have HE : Hid (hereR n ⟨4, s, vl⟩ = (nd0, 8)) := by
      unfold Hid
      rw [HH.out, hno]; rfl
    have HF : Hid (Post17 w w1 b o cur lo hi (nd0, 8)) := post_no HA.out hb1 (by decide)
    clear hb1 hno HPC c2 cs cl t0 hr
    go_wp2
    go_ret
    exact ⟨by rw [HE.out]; rfl, by rw [HE.out]; exact HF.out⟩
  · have HE : Hid (hereR n ⟨4, s, vl⟩ = (.mk n.nm n.ps (n.ks.take i ++ n.ks.drop (i + 1)), 0)) := by
      unfold Hid
      rw [HH.out, hyes, hwo]; rfl
    obtain ⟨kl, e1, e2, e3, e4⟩ := store_kids HA1.out
    have hkl : kl.length = n.ks.length := by rw [← e1, List.length_map]
    rw [hkl] at e2
    obtain ⟨g, rfl⟩ : ∃ g, K = some ⟨g, 0, none⟩ := by
      obtain ⟨A', pc', e, _, _, h0⟩ := row_form e2
      injection e with e
      rcases h0 with h0 | ⟨g, h0, _⟩
      · omega
      · exact ⟨g, e.trans h0⟩
    have hdel := delNode_any lo n.ks.length i g kc (kdL kl) w1 e2 hi' e3
    rw [kdL_del] at hdel
    have HDEL := Lib.hid hdel
    have d0 : decide ((i : Int) < 0) = false := decide_eq_false (by omega)
    have c2' : w1.cell? ⟨b, o + 2, none⟩ = some (.slice (some ⟨g, 0, none⟩) n.ks.length kc) := by rw [HA1.out.arr.cell]; exact HA1.out.c2
    have HLN : Hid ((kl.take i ++ kl.drop (i + 1)).length = n.ks.length - 1) := by unfold Hid; rw [List.length_append, List.length_take, List.length_drop]; omega
    have HMP : Hid ((kl.take i ++ kl.drop (i + 1)).map KD.nd = n.ks.take i ++ n.ks.drop (i + 1)) := by unfold Hid; rw [List.map_append, List.map_take, List.map_drop, e1]
    have HB1 := Lib.hid hb1
    have HST := Lib.hid e4
    clear hb1 hdel hyes hwo HPC c2 cs cl t0 hr e1 e2 e3 e4 hkl
    go_wp2_with fail
    refine HDEL.out.mono ?_
    rintro e w2 ⟨rfl, hrow, hm⟩
    obtain ⟨s1, s2, s3⟩ := HST.out w2 (kl.take i ++ kl.drop (i + 1)) _ _ hm (by rw [HLN.out]; exact hrow) (fun c hc => .inl ((List.mem_append.1 hc).elim List.mem_of_mem_take List.mem_of_mem_drop))
    rw [HMP.out] at s3
    have HF := Lib.hid (s3.later HB1.out)
    clear hrow hm s3 HDEL c2' HST
    go_wp2
    go_ret
    exact ⟨by rw [HE.out]; rfl, by rw [HE.out]; exact HF.out⟩
end Go.Proofs.YtfcclppgjfkfoaaGreatDoor
