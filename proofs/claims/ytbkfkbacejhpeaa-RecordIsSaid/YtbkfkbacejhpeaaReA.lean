/- The document's Newer, Next and Body of layer 20. Conditions: numbers of 64 bits; data of at most 2^40 bytes. -/
import Derived.Test.YtbkfkbacejhpeaaRePlain
import Derived.Test.YtbkfkbacejhpeaaCrcB
import Derived.Test.YtbkfkbacejhpeaaNumS
import Derived.Test.YtbkfkbacejhpeaaArr
import Derived.Test.YtbkfkbacejhpeaaReg
import Derived.Laws.BitsLemmas
import Derived.Deep.QuietTactic
import Derived.Deep.RegionWith
import Derived.Deep.DeepCutAuto
namespace Go.Proofs.Ytbkfkbacejhpeaa
open Go.RowKit

set_option maxHeartbeats 800000 in
theorem rnewer_any (a b : Int) (w : World) : Calls Try.prog 12 #[.int .i64 a, .int .i64 b] w fun e w' => e = .returned (.bool (newer20 a b)) ∧ w = w' := by
  have ha : IntKind.u32.wrap a = a % 4294967296 := IntKind.wrap_u32 a
  have hb : IntKind.u32.wrap b = b % 4294967296 := IntKind.wrap_u32 b
  have hd : IntKind.u32.wrap (a % 4294967296 - b % 4294967296) = (a - b) % 4294967296 := by rw [IntKind.wrap_u32]; omega
  obtain ⟨d, hd'⟩ : ∃ d, d = (a - b) % 4294967296 := ⟨_, rfl⟩
  have HN : Hid (newer20 a b = (decide (1 ≤ d) && decide (d < 2147483648))) := by
    unfold Hid newer20
    rw [hd', Bool.decide_and]
  rw [← hd'] at hd
  by_cases q1 : 1 ≤ d
  · have d1 : decide (1 ≤ d) = true := decide_eq_true q1
    by_cases q2 : d < 2147483648
    · have d2 : decide (d < 2147483648) = true := decide_eq_true q2
      rw [d1, d2] at HN
      clear hd'
      go_enter Try.func12, Try.ntmps12
      go_wp2
      go_ret
      exact ⟨by rw [HN.out]; rfl, rfl⟩
    · have d2 : decide (d < 2147483648) = false := decide_eq_false q2
      rw [d1, d2] at HN
      clear hd'
      go_enter Try.func12, Try.ntmps12
      go_wp2
      go_ret
      exact ⟨by rw [HN.out]; rfl, rfl⟩
  · have d1 : decide (1 ≤ d) = false := decide_eq_false q1
    rw [d1] at HN
    clear hd'
    go_enter Try.func12, Try.ntmps12
    go_wp2
    go_ret
    exact ⟨by rw [HN.out]; rfl, rfl⟩
set_option maxHeartbeats 800000 in
theorem rnext_any (n : Int) (w : World) : Calls Try.prog 14 #[.int .i64 n] w fun e w' => e = .returned (.int .i64 (next20 n)) ∧ w = w' := by
  have ha : IntKind.u32.wrap n = n % 4294967296 := IntKind.wrap_u32 n
  have hb : IntKind.u32.wrap (n % 4294967296 + 1) = next20 n := by rw [IntKind.wrap_u32]; unfold next20; omega
  have h64 : IntKind.i64.wrap (next20 n) = next20 n := IntWalk.i64_in _ (by unfold next20; omega)
  go_enter Try.func14, Try.ntmps14
  go_wp2
  go_ret
  exact ⟨rfl, rfl⟩

theorem baA_app (a b : List UInt8) : (⟨a.toArray⟩ : ByteArray) ++ ⟨b.toArray⟩ = ⟨(a ++ b).toArray⟩ := ByteArray.mk_append_mk _ _
theorem baA_of (s : ByteArray) : (⟨s.data.toList.toArray⟩ : ByteArray) = s := by simp
/-- Two strings are put together. -/
theorem add20 {W : World} {a b : List UInt8} (h : a.length + b.length ≤ 1099511627776) : (Op.stringOp .add ⟨a.toArray⟩ ⟨b.toArray⟩).run Try.prog W = .ok (.string ⟨(a ++ b).toArray⟩) W := by
  rw [run_string_add_sum W _ _ (by rw [size_mk, size_mk]; omega), baA_app]

set_option maxHeartbeats 1600000 in
set_option maxRecDepth 100000 in
theorem rbody_any (r : RC) (w : World) (hd : r.da.size ≤ 1073741824) :
    Calls Try.prog 8 #[.agg #[.int .i64 r.sr, .string r.da]] w fun e w' => e = .returned (.tuple #[.string (body20 r).1, .int .i64 ((body20 r).2 : Nat)]) ∧ Below w.heap.size w w' := by
  obtain ⟨n, d⟩ := r
  simp only at hd
  simp only
  obtain ⟨W1, hW1⟩ : ∃ W1, W1 = w.alloc (.cells #[.int .i64 n, .string d] 23) := ⟨_, rfl⟩
  obtain ⟨g1, hg1⟩ : ∃ g1, g1 = w.heap.size := ⟨_, rfl⟩
  have hB1 : Below w.heap.size w W1 := by rw [hW1]; exact (Below.refl _ _).alloc (Nat.le_refl _) _
  have hA1 : Arr W1 g1 23 #[.int .i64 n, .string d] := by rw [hW1, hg1]; exact Arr.new w _ _
  have c0 : W1.cell? ⟨g1, 0, none⟩ = some (.int .i64 n) := hA1.cell 0
  have c1 : W1.cell? ⟨g1, 1, none⟩ = some (.string d) := hA1.cell 1
  have HA1 := Lib.hid hA1
  have HB1 := Lib.hid hB1
  have HE : Hid (body20 ⟨n, d⟩ = if n < 0 ∨ 4294967295 < n then (⟨#[]⟩, 1) else if 496 < d.size then (⟨#[]⟩, 7) else (⟨(bytes20 n d.data.toList).toArray⟩, 0)) := rfl
  generalize body20 ⟨n, d⟩ = T at *
  clear hA1 hB1
  by_cases q1 : n < 0
  · have d1 : decide (n < 0) = true := decide_eq_true q1
    replace HE : Hid (T = (⟨#[]⟩, 1)) := HE.out.trans (if_pos (.inl q1))
    clear q1
    go_enter Try.func8, Try.ntmps8
    go_upto_region 1 with fail
    rw [← hW1, ← hg1]
    clear hW1 hg1
    go_wp2
    go_ret2
    exact ⟨by rw [HE.out]; rfl, HB1.out⟩
  have d1 : decide (n < 0) = false := decide_eq_false q1
  by_cases q2 : 4294967295 < n
  · have d2 : decide (4294967295 < n) = true := decide_eq_true q2
    replace HE : Hid (T = (⟨#[]⟩, 1)) := HE.out.trans (if_pos (.inr q2))
    clear q1 q2
    go_enter Try.func8, Try.ntmps8
    go_upto_region 1 with fail
    rw [← hW1, ← hg1]
    clear hW1 hg1
    go_wp2
    go_ret2
    exact ⟨by rw [HE.out]; rfl, HB1.out⟩
  have d2 : decide (4294967295 < n) = false := decide_eq_false q2
  replace HE : Hid (T = if 496 < d.size then (⟨#[]⟩, 7) else (⟨(bytes20 n d.data.toList).toArray⟩, 0)) := HE.out.trans (if_neg (by rintro (h | h); exact q1 h; exact q2 h))
  by_cases q3 : 496 < d.size
  · have d3 : decide ((496 : Int) < (d.size : Int)) = true := decide_eq_true (by omega)
    replace HE : Hid (T = (⟨#[]⟩, 7)) := HE.out.trans (if_pos q3)
    clear q1 q2 q3
    go_enter Try.func8, Try.ntmps8
    go_upto_region 1 with fail
    rw [← hW1, ← hg1]
    clear hW1 hg1
    go_wp2
    go_ret2
    exact ⟨by rw [HE.out]; rfl, HB1.out⟩
  have d3 : decide ((496 : Int) < (d.size : Int)) = false := decide_eq_false (by omega)
  replace HE : Hid (T = (⟨(bytes20 n d.data.toList).toArray⟩, 0)) := HE.out.trans (if_neg q3)
  have hdl : d.data.toList.length = d.size := rfl
  have HBG : Hid (∀ W : World, Calls Try.prog 17 #[.slice (some ⟨W.heap.size, 0, none⟩) 2 2] (W.alloc (.cells #[.int .i64 n, .int .i64 (d.size : Int)] 3)) fun e w' => e = .returned (.string ⟨(head20 n d.size).toArray⟩) ∧ Below (W.alloc (.cells #[.int .i64 n, .int .i64 (d.size : Int)] 3)).heap.size (W.alloc (.cells #[.int .i64 n, .int .i64 (d.size : Int)] 3)) w') := fun W => by
    have hA := Arr.new W 3 #[.int .i64 n, .int .i64 (d.size : Int)]
    have h := refbigs_any (some ⟨W.heap.size, 0, none⟩) 2 [n, (d.size : Int)] (W.alloc (.cells #[.int .i64 n, .int .i64 (d.size : Int)] 3)) (by show 2 ≤ _; omega) (.inr ⟨_, 0, rfl, hA.lt, fun k hk => by
      match k, hk with
      | 0, _ => exact hA.cell 0
      | 1, _ => exact hA.cell 1⟩)
    exact h
  have HSM : Hid (∀ W, Calls Try.prog 19 #[.string ⟨(head20 n d.size ++ d.data.toList).toArray⟩] W fun e w' => e = .returned (.int .i64 ((sum20 n d.data.toList : Nat) : Int)) ∧ W = w') := fun W => by
    have h := refsum_any ⟨(head20 n d.size ++ d.data.toList).toArray⟩ W (by rw [size_mk, List.length_append]; show 8 + d.data.toList.length ≤ 9223372036854775807; omega)
    exact h
  have a1 : ∀ W, (Op.stringOp .add ⟨(head20 n d.size).toArray⟩ d).run Try.prog W = .ok (.string ⟨(head20 n d.size ++ d.data.toList).toArray⟩) W := fun W => by
    have := add20 (W := W) (a := head20 n d.size) (b := d.data.toList) (by show 8 + d.data.toList.length ≤ _; omega)
    rwa [baA_of] at this
  have a2 : ∀ W, (Op.stringOp .add ⟨(head20 n d.size).toArray⟩ ⟨(big ((sum20 n d.data.toList : Nat) : Int)).toArray⟩).run Try.prog W = .ok (.string ⟨(head20 n d.size ++ big ((sum20 n d.data.toList : Nat) : Int)).toArray⟩) W := fun W => add20 (by show 8 + 4 ≤ _; omega)
  have a3 : ∀ W, (Op.stringOp .add ⟨(head20 n d.size ++ big ((sum20 n d.data.toList : Nat) : Int)).toArray⟩ d).run Try.prog W = .ok (.string ⟨(bytes20 n d.data.toList).toArray⟩) W := fun W => by
    have := add20 (W := W) (a := head20 n d.size ++ big ((sum20 n d.data.toList : Nat) : Int)) (b := d.data.toList) (by show 12 + d.data.toList.length ≤ _; omega)
    rw [baA_of, List.append_assoc] at this
    exact this
  generalize bytes20 n d.data.toList = BY at *
  generalize sum20 n d.data.toList = sm at *
  have HBI := Lib.hid (fun W => refbig_any (sm : Int) W)
  generalize (⟨(head20 n d.size ++ big (sm : Int)).toArray⟩ : ByteArray) = S3 at *
  generalize (⟨(head20 n d.size ++ d.data.toList).toArray⟩ : ByteArray) = S2 at *
  generalize (⟨(head20 n d.size).toArray⟩ : ByteArray) = S1 at *
  generalize (⟨(big (sm : Int)).toArray⟩ : ByteArray) = S4 at *
  clear q1 q2 q3 hdl
  go_enter Try.func8, Try.ntmps8
  go_upto_region 1 with fail
  rw [← hW1, ← hg1]
  clear hW1 hg1
  go_wp2_with fail
  refine (HBG.out _).mono ?_
  rintro e w3 ⟨rfl, hb⟩
  have hb1 : Below W1.heap.size W1 (W1.alloc (.cells #[.int .i64 n, .int .i64 (d.size : Int)] 3)) := (Below.refl _ _).alloc (Nat.le_refl _) _
  have hb2 := hb1.trans (hb.mono hb1.size)
  have HA3 := Lib.hid (HA1.out.below hb2 HA1.out.lt)
  have HB3 := Lib.hid (HB1.out.trans (hb2.mono HB1.out.size))
  have hbd : Below w3.heap.size w3 w3.drew := (Below.refl _ _).drew
  have HKP : Hid (∀ W', Below w3.heap.size w3 W' → W'.cell? ⟨g1, 1, none⟩ = some (.string d)) := fun W' h => (HA3.out.below h HA3.out.lt).cell 1
  clear hb hb1 hb2 c0 c1 HBG
  go_upto_region 6 with fail
  refine wp_region_held_drew (S := fun (W' : World) => W'.cell? ⟨g1, 1, none⟩ = some (.string d)) (by kernel_rfl) (by exact HKP.out _ hbd) (fun hHeld => ?_)
  refine takeH 0 24 rfl rfl (v := ?_) (by kernel_rfl) (by kernel_rfl) (by kernel_rfl) (fun _ _ _ h => h) (Or.inl ⟨by rfl, ?_⟩) hHeld ?_
  rotate_left 1
  · (intro w hSw; (try dsimp only at hSw); go_simp; try (with_reducible rfl))
  (try simp only [Act.put]); (try simp only [List.setIfInBounds_toArray]); (try simp only [List.set_cons_succ]); (try simp only [List.set_cons_zero])
  refine takeH 1 25 rfl rfl (v := ?_) (by kernel_rfl) (by kernel_rfl) (by kernel_rfl) (fun _ _ _ h => h) (Or.inl ⟨by rfl, ?_⟩) hHeld ?_
  rotate_left 1
  · (intro w hSw; (try dsimp only at hSw); go_simp; try (with_reducible rfl))
  (try simp only [Act.put]); (try simp only [List.setIfInBounds_toArray]); (try simp only [List.set_cons_succ]); (try simp only [List.set_cons_zero])
  refine takeH 2 26 rfl rfl (v := ?_) (by kernel_rfl) (by kernel_rfl) (by kernel_rfl) (fun _ _ _ h => h) (Or.inl ⟨by rfl, ?_⟩) hHeld ?_
  rotate_left 1
  · (intro w hSw; (try dsimp only at hSw); go_simp; try (with_reducible rfl))
  (try simp only [Act.put]); (try simp only [List.setIfInBounds_toArray]); (try simp only [List.set_cons_succ]); (try simp only [List.set_cons_zero])
  refine takeH 3 27 rfl rfl (v := ?_) (by kernel_rfl) (by kernel_rfl) (by kernel_rfl) (fun _ _ _ h => h) (Or.inl ⟨by rfl, ?_⟩) hHeld ?_
  rotate_left 1
  · (intro w hSw; (try dsimp only at hSw); go_simp; try (with_reducible rfl))
  (try simp only [Act.put]); (try simp only [List.setIfInBounds_toArray]); (try simp only [List.set_cons_succ]); (try simp only [List.set_cons_zero])
  refine takeH 4 28 rfl rfl (v := ?_) (by kernel_rfl) (by kernel_rfl) (by kernel_rfl) (fun _ _ _ h => h) (Or.inl ⟨by rfl, ?_⟩) hHeld ?_
  rotate_left 1
  · (intro w hSw; (try dsimp only at hSw); go_simp; try (with_reducible rfl))
  (try simp only [Act.put]); (try simp only [List.setIfInBounds_toArray]); (try simp only [List.set_cons_succ]); (try simp only [List.set_cons_zero])
  refine takeH 8 32 rfl rfl (v := ?_) (by kernel_rfl) (by kernel_rfl) (by kernel_rfl) (fun _ _ _ h => h) (Or.inl ⟨by rfl, ?_⟩) hHeld ?_
  rotate_left 1
  · (intro w hSw; (try dsimp only at hSw); go_simp; try (with_reducible rfl))
  (try simp only [Act.put]); (try simp only [List.setIfInBounds_toArray]); (try simp only [List.set_cons_succ]); (try simp only [List.set_cons_zero])
  refine takeH 9 33 rfl rfl (v := ?_) (by kernel_rfl) (by kernel_rfl) (by kernel_rfl) (fun _ _ _ h => h) (Or.inl ⟨by rfl, ?_⟩) hHeld ?_
  rotate_left 1
  · (intro w hSw; (try dsimp only at hSw); go_simp; try (with_reducible rfl))
  (try simp only [Act.put]); (try simp only [List.setIfInBounds_toArray]); (try simp only [List.set_cons_succ]); (try simp only [List.set_cons_zero])
  refine wpAnyH_ready (rs := [5]) (by kernel_rfl) (by simp) (AllReadyH.cons rfl (fun K hK => ?_) AllReadyH.nil)
  go_simp
  refine (HSM.out _).mono ?_
  rintro e w4 ⟨rfl, rfl⟩
  (try dsimp only)
  refine hK.out _ _ (by exact HKP.out _ hbd) (fun hHeld => ?_)
  clear hK K
  (try simp only [Act.put]); (try simp only [List.setIfInBounds_toArray]); (try simp only [List.set_cons_succ]); (try simp only [List.set_cons_zero])
  refine wpAnyH_ready (rs := [6]) (by kernel_rfl) (by simp) (AllReadyH.cons rfl (fun K hK => ?_) AllReadyH.nil)
  go_simp
  refine (HBI.out _).mono ?_
  rintro e w5 ⟨rfl, s1⟩
  have hb5 := hbd.trans (s1.mono hbd.size)
  (try dsimp only)
  refine hK.out _ _ (by exact HKP.out _ hb5) (fun hHeld => ?_)
  clear hK K
  (try simp only [Act.put]); (try simp only [List.setIfInBounds_toArray]); (try simp only [List.set_cons_succ]); (try simp only [List.set_cons_zero])
  refine takeH 7 31 rfl rfl (v := ?_) (by kernel_rfl) (by kernel_rfl) (by kernel_rfl) (fun _ _ _ h => h) (Or.inl ⟨by rfl, ?_⟩) hHeld ?_
  rotate_left 1
  · (intro w hSw; (try dsimp only at hSw); go_simp; try (with_reducible rfl))
  (try simp only [Act.put]); (try simp only [List.setIfInBounds_toArray]); (try simp only [List.set_cons_succ]); (try simp only [List.set_cons_zero])
  refine takeH 10 34 rfl rfl (v := ?_) (by kernel_rfl) (by kernel_rfl) (by kernel_rfl) (fun _ _ _ h => h) (Or.inl ⟨by rfl, ?_⟩) hHeld ?_
  rotate_left 1
  · (intro w hSw; (try dsimp only at hSw); go_simp; try (with_reducible rfl))
  (try simp only [Act.put]); (try simp only [List.setIfInBounds_toArray]); (try simp only [List.set_cons_succ]); (try simp only [List.set_cons_zero])
  refine wpAnyH_ready (rs := [11]) (by kernel_rfl) (by simp) (AllReadyH.cons rfl (fun K hK => ?_) AllReadyH.nil)
  go_simp
  refine hK.out _ _ (by exact HKP.out _ hb5) (fun hHeld => ?_)
  clear hK K
  (try simp only [Act.put]); (try simp only [List.setIfInBounds_toArray]); (try simp only [List.set_cons_succ]); (try simp only [List.set_cons_zero])
  refine wpAnyH_ready (rs := [12]) (by kernel_rfl) (by simp) (AllReadyH.cons rfl (fun K hK => ?_) AllReadyH.nil)
  go_simp
  refine hK.out _ _ (by exact HKP.out _ hb5) (fun hHeld => ?_)
  clear hK K
  (try simp only [Act.put]); (try simp only [List.setIfInBounds_toArray]); (try simp only [List.set_cons_succ]); (try simp only [List.set_cons_zero])
  refine wpAnyH_done (by kernel_rfl) ?_ _
  have HBF := Lib.hid (HB3.out.trans (hb5.mono HB3.out.size))
  clear hHeld hb5 s1 HKP
  go_wp2
  go_ret2
  exact ⟨by rw [HE.out]; rfl, HBF.out⟩
end Go.Proofs.Ytbkfkbacejhpeaa
