/- What package record's checksum, Newer, Next and Body return. Conditions: numbers of 64 bits; data of at most 2^20 bytes. -/
import Derived.Test.YtbkfkbacejhpeaaReC
import Derived.Test.YtbkfkbacejhpeaaCrcC
import Derived.Test.YtbkfkbacejhpeaaNumB
import Derived.Deep.RegionHeld3
namespace Go.Proofs.Ytbkfkbacejhpeaa
open Go.RowKit

theorem sum20_parts (n : Int) (d : List UInt8) : more (more (more 0 (big n)) (big (d.length : Int))) d = sum20 n d := by
  unfold sum20 head20
  rw [more_append, more_append]

set_option maxHeartbeats 800000 in
theorem checksum_any (n : Int) (d : ByteArray) (w : World) (hd : d.size ≤ 1099511627776) :
    Calls Try.prog 16 #[.int .i64 n, .string d] w fun e w' => e = .returned (.int .i64 ((sum20 n d.data.toList : Nat) : Int)) ∧ Below w.heap.size w w' := by
  have HS := Lib.hid (sum20_parts n d.data.toList)
  have hl : d.data.toList.length = d.size := rfl
  rw [hl] at HS
  have hm0 : more 0 (big n) < 4294967296 := more_lt _ (by decide)
  have hm1 : more (more 0 (big n)) (big (d.size : Int)) < 4294967296 := more_lt _ hm0
  have H0 : Hid (∀ W : World, Calls Try.prog 26 #[.slice (some ⟨W.heap.size, 0, none⟩) 1 1] (W.alloc (.cells #[.string ⟨(big n).toArray⟩] 9)) fun e w' => e = .returned (.int .i64 ((more 0 (big n) : Nat) : Int)) ∧ W.alloc (.cells #[.string ⟨(big n).toArray⟩] 9) = w') := fun W => sum1 _ W (by rw [size_mk]; exact Nat.le_of_ble_eq_true rfl)
  have H1 : Hid (∀ W : World, Calls Try.prog 27 #[.int .i64 ((more 0 (big n) : Nat) : Int), .string ⟨(big (d.size : Int)).toArray⟩] W fun e w' => e = .returned (.int .i64 ((more (more 0 (big n)) (big (d.size : Int)) : Nat) : Int)) ∧ W = w') := fun W => by
    have h := more_any ((more 0 (big n) : Nat) : Int) ⟨(big (d.size : Int)).toArray⟩ W (by rw [size_mk]; exact Nat.le_of_ble_eq_true rfl)
    rw [show (((more 0 (big n) : Nat) : Int) % 4294967296).toNat = more 0 (big n) by omega] at h
    exact h
  have H2 : Hid (∀ W : World, Calls Try.prog 27 #[.int .i64 ((more (more 0 (big n)) (big (d.size : Int)) : Nat) : Int), .string d] W fun e w' => e = .returned (.int .i64 ((sum20 n d.data.toList : Nat) : Int)) ∧ W = w') := fun W => by
    have h := more_any ((more (more 0 (big n)) (big (d.size : Int)) : Nat) : Int) d W (by unfold maxLen; omega)
    rw [show (((more (more 0 (big n)) (big (d.size : Int)) : Nat) : Int) % 4294967296).toNat = more (more 0 (big n)) (big (d.size : Int)) by omega, HS.out] at h
    exact h
  have HB0 := Lib.hid (fun W => big_any n W)
  have HB1 := Lib.hid (fun W => big_any (d.size : Int) W)
  generalize sum20 n d.data.toList = s2 at *
  generalize more (more 0 (big n)) (big (d.size : Int)) = s1 at *
  generalize more 0 (big n) = s0 at *
  generalize (⟨(big (d.size : Int)).toArray⟩ : ByteArray) = S1 at *
  generalize (⟨(big n).toArray⟩ : ByteArray) = S0 at *
  clear HS hl hm0 hm1
  go_enter Try.func16, Try.ntmps16
  go_wp2_with fail
  refine (HB0.out _).mono ?_
  rintro e w1 ⟨rfl, hb⟩
  have HW := Lib.hid hb
  clear hb
  go_wp2_with fail
  refine (H0.out _).mono ?_
  rintro e w2 ⟨rfl, rfl⟩
  obtain ⟨W2, hW2⟩ : ∃ W2, W2 = w1.alloc (.cells #[.string S0] 9) := ⟨_, rfl⟩
  rw [← hW2]
  have HW := Lib.hid (show Below w.heap.size w W2 by rw [hW2]; exact HW.out.alloc HW.out.size _)
  clear hW2
  go_wp2_with fail
  refine (HB1.out _).mono ?_
  rintro e w3 ⟨rfl, hb⟩
  have HW := Lib.hid (HW.out.trans (hb.mono HW.out.size))
  clear hb
  go_wp2_with fail
  refine (H1.out _).mono ?_
  rintro e w4 ⟨rfl, rfl⟩
  go_wp2_with fail
  refine (H2.out _).mono ?_
  rintro e w5 ⟨rfl, rfl⟩
  go_wp2
  go_ret
  exact ⟨rfl, HW.out⟩

set_option maxHeartbeats 800000 in
set_option maxRecDepth 100000 in
theorem newer_any (a b : Int) (w : World) : Calls Try.prog 11 #[.int .i64 a, .int .i64 b] w fun e w' => e = .returned (.bool (newer20 a b)) ∧ Below w.heap.size w w' := by
  have hw : (wrap64 (a - b)) % 4294967296 = (a - b) % 4294967296 := by unfold wrap64; omega
  have hand := (i64_and_low (wrap64 (a - b))).2
  rw [hw] at hand
  obtain ⟨d, hd'⟩ : ∃ d : Nat, d = ((a - b) % 4294967296).toNat := ⟨_, rfl⟩
  have HN : Hid (newer20 a b = (decide (0 < (d : Int)) && decide ((d : Int) < 2147483648))) := by
    unfold Hid newer20
    have e : (a - b) % 4294967296 = (d : Int) := by omega
    rw [e, Bool.decide_and]
    congr 1
  rw [← hd'] at hand
  generalize newer20 a b = R at *
  by_cases q1 : 0 < (d : Int)
  · have d1 : decide (0 < (d : Int)) = true := decide_eq_true q1
    have d3 : decide (0 < d) = true := decide_eq_true (by omega)
    by_cases q2 : (d : Int) < 2147483648
    · have d2 : decide ((d : Int) < 2147483648) = true := decide_eq_true q2
      rw [d1, d2] at HN
      clear hd' hw q1 q2
      go_enter Try.func11, Try.ntmps11
      go_wp2
      go_ret
      exact ⟨by rw [HN.out]; rfl, Below.refl _ _⟩
    · have d2 : decide ((d : Int) < 2147483648) = false := decide_eq_false q2
      rw [d1, d2] at HN
      clear hd' hw q1 q2
      go_enter Try.func11, Try.ntmps11
      go_wp2
      go_ret
      exact ⟨by rw [HN.out]; rfl, Below.refl _ _⟩
  · have d1 : decide (0 < (d : Int)) = false := decide_eq_false q1
    rw [d1] at HN
    have d3 : decide (0 < d) = false := decide_eq_false (by omega)
    clear hd' hw q1
    go_enter Try.func11, Try.ntmps11
    go_wp2
    go_ret
    exact ⟨by rw [HN.out]; rfl, Below.refl _ _⟩
set_option maxHeartbeats 800000 in
set_option maxRecDepth 100000 in
theorem next_any (n : Int) (w : World) : Calls Try.prog 13 #[.int .i64 n] w fun e w' => e = .returned (.int .i64 (next20 n)) ∧ Below w.heap.size w w' := by
  have hw : (wrap64 (n + 1)) % 4294967296 = (n + 1) % 4294967296 := by unfold wrap64; omega
  have hand := (i64_and_low (wrap64 (n + 1))).2
  rw [hw, show (((n + 1) % 4294967296).toNat : Int) = next20 n by unfold next20; omega] at hand
  generalize next20 n = R at *
  clear hw
  go_enter Try.func13, Try.ntmps13
  go_wp2
  go_ret
  exact ⟨rfl, Below.refl _ _⟩

-- BODY

set_option maxHeartbeats 3200000 in
set_option maxRecDepth 100000 in
theorem body_any (r : RC) (w : World) (hd : r.da.size ≤ 1073741824) :
    Calls Try.prog 7 #[.agg #[.int .i64 r.sr, .string r.da]] w fun e w' => e = .returned (.tuple #[.string (body20 r).1, .int .i64 ((body20 r).2 : Nat)]) ∧ Below w.heap.size w w' := by
  obtain ⟨n, d⟩ := r
  simp only at hd
  simp only
  obtain ⟨W1, hW1⟩ : ∃ W1, W1 = w.alloc (.cells #[.int .i64 n, .string d] 23) := ⟨_, rfl⟩
  obtain ⟨g1, hg1⟩ : ∃ g1, g1 = w.heap.size := ⟨_, rfl⟩
  have hB1 : Below w.heap.size w W1 := by rw [hW1]; exact (Below.refl _ _).alloc (Nat.le_refl _) _
  have hA1 : Arr W1 g1 23 #[.int .i64 n, .string d] := by rw [hW1, hg1]; exact Arr.new w _ _
  have c0 : W1.cell? ⟨g1, 0, none⟩ = some (.int .i64 n) := hA1.cell 0
  have c1 : W1.cell? ⟨g1, 1, none⟩ = some (.string d) := hA1.cell 1
  have HA1 := Lib.hid hA1
  have HB1 := Lib.hid hB1
  have HE : Hid (body20 ⟨n, d⟩ = if n < 0 ∨ 4294967295 < n then (⟨#[]⟩, 1) else if 496 < d.size then (⟨#[]⟩, 7) else (⟨(bytes20 n d.data.toList).toArray⟩, 0)) := rfl
  generalize body20 ⟨n, d⟩ = T at *
  clear hA1 hB1
  by_cases q1 : n < 0
  · have d1 : decide (n < 0) = true := decide_eq_true q1
    replace HE : Hid (T = (⟨#[]⟩, 1)) := HE.out.trans (if_pos (.inl q1))
    clear q1
    go_enter Try.func7, Try.ntmps7
    go_upto_region 1 with fail
    rw [← hW1, ← hg1]
    clear hW1 hg1
    go_wp2
    go_ret2
    exact ⟨by rw [HE.out]; rfl, HB1.out⟩
  have d1 : decide (n < 0) = false := decide_eq_false q1
  by_cases q2 : 4294967295 < n
  · have d2 : decide (4294967295 < n) = true := decide_eq_true q2
    replace HE : Hid (T = (⟨#[]⟩, 1)) := HE.out.trans (if_pos (.inr q2))
    clear q1 q2
    go_enter Try.func7, Try.ntmps7
    go_upto_region 1 with fail
    rw [← hW1, ← hg1]
    clear hW1 hg1
    go_wp2
    go_ret2
    exact ⟨by rw [HE.out]; rfl, HB1.out⟩
  have d2 : decide (4294967295 < n) = false := decide_eq_false q2
  replace HE : Hid (T = if 496 < d.size then (⟨#[]⟩, 7) else (⟨(bytes20 n d.data.toList).toArray⟩, 0)) := HE.out.trans (if_neg (by rintro (h | h); exact q1 h; exact q2 h))
  by_cases q3 : 496 < d.size
  · have d3 : decide ((496 : Int) < (d.size : Int)) = true := decide_eq_true (by omega)
    replace HE : Hid (T = (⟨#[]⟩, 7)) := HE.out.trans (if_pos q3)
    clear q1 q2 q3
    go_enter Try.func7, Try.ntmps7
    go_upto_region 1 with fail
    rw [← hW1, ← hg1]
    clear hW1 hg1
    go_wp2
    go_ret2
    exact ⟨by rw [HE.out]; rfl, HB1.out⟩
  have d3 : decide ((496 : Int) < (d.size : Int)) = false := decide_eq_false (by omega)
  replace HE : Hid (T = (⟨(bytes20 n d.data.toList).toArray⟩, 0)) := HE.out.trans (if_neg q3)
  have hdl : d.data.toList.length = d.size := rfl
  have hbl : bytes20 n d.data.toList = bigs [n, (d.size : Int), ((sum20 n d.data.toList : Nat) : Int)] 3 ++ d.data.toList := by
    unfold bytes20 head20 bigs
    rw [hdl]
    simp only [List.append_assoc, List.take, List.flatMap_cons, List.flatMap_nil, List.nil_append]
  have HCS := Lib.hid (fun W => checksum_any n d W (by omega))
  have HBG : Hid (∀ W : World, Calls Try.prog 15 #[.slice (some ⟨W.heap.size, 0, none⟩) 3 3] (W.alloc (.cells #[.int .i64 n, .int .i64 (d.size : Int), .int .i64 ((sum20 n d.data.toList : Nat) : Int)] 3)) fun e w' => e = .returned (.string ⟨(bigs [n, (d.size : Int), ((sum20 n d.data.toList : Nat) : Int)] 3).toArray⟩) ∧ Below (W.alloc (.cells #[.int .i64 n, .int .i64 (d.size : Int), .int .i64 ((sum20 n d.data.toList : Nat) : Int)] 3)).heap.size (W.alloc (.cells #[.int .i64 n, .int .i64 (d.size : Int), .int .i64 ((sum20 n d.data.toList : Nat) : Int)] 3)) w') := fun W => by
    have hA := Arr.new W 3 #[.int .i64 n, .int .i64 (d.size : Int), .int .i64 ((sum20 n d.data.toList : Nat) : Int)]
    have h := bigs_any (some ⟨W.heap.size, 0, none⟩) 3 [n, (d.size : Int), ((sum20 n d.data.toList : Nat) : Int)] (W.alloc (.cells #[.int .i64 n, .int .i64 (d.size : Int), .int .i64 ((sum20 n d.data.toList : Nat) : Int)] 3)) (by show 3 ≤ _; omega) (.inr ⟨_, 0, rfl, hA.lt, fun k hk => by
      match k, hk with
      | 0, _ => exact hA.cell 0
      | 1, _ => exact hA.cell 1
      | 2, _ => exact hA.cell 2⟩)
    exact h
  have hB3 : (bigs [n, (d.size : Int), ((sum20 n d.data.toList : Nat) : Int)] 3).length = 12 := bigs_length _ 3 (by show 3 ≤ 3; omega)
  have a1 : ∀ W, (Op.stringOp .add ⟨(bigs [n, (d.size : Int), ((sum20 n d.data.toList : Nat) : Int)] 3).toArray⟩ d).run Try.prog W = .ok (.string ⟨(bytes20 n d.data.toList).toArray⟩) W := fun W => by
    have := add20 (W := W) (a := bigs [n, (d.size : Int), ((sum20 n d.data.toList : Nat) : Int)] 3) (b := d.data.toList) (by rw [hB3, hdl]; omega)
    rwa [baA_of, ← hbl] at this
  clear hbl hB3
  generalize bytes20 n d.data.toList = BY at *
  generalize (⟨(bigs [n, (d.size : Int), ((sum20 n d.data.toList : Nat) : Int)] 3).toArray⟩ : ByteArray) = S1 at *
  generalize sum20 n d.data.toList = sm at *
  have HKP : Hid (∀ W', Below W1.heap.size W1 W' → W'.cell? ⟨g1, 0, none⟩ = some (.int .i64 n) ∧ W'.cell? ⟨g1, 1, none⟩ = some (.string d) ∧ Below w.heap.size w W') := fun W' h => ⟨(HA1.out.below h HA1.out.lt).cell 0, (HA1.out.below h HA1.out.lt).cell 1, HB1.out.trans (h.mono HB1.out.size)⟩
  have hbd : Below W1.heap.size W1 W1.drew := (Below.refl _ _).drew
  clear q1 q2 q3 hdl
  go_enter Try.func7, Try.ntmps7
  go_upto_region 1 with fail
  rw [← hW1, ← hg1]
  clear hW1 hg1
  go_upto_region 5 with fail
  clear c0 c1
  refine wp_region_held_drew (S := fun (W' : World) => W'.cell? ⟨g1, 0, none⟩ = some (.int .i64 n) ∧ W'.cell? ⟨g1, 1, none⟩ = some (.string d) ∧ Below W1.heap.size W1 W') (by kernel_rfl) (by exact ⟨(HKP.out _ hbd).1, (HKP.out _ hbd).2.1, hbd⟩) (fun hHeld => ?_)
  refine takeH 0 18 rfl rfl (v := ?_) (by kernel_rfl) (by kernel_rfl) (by kernel_rfl) (fun _ _ _ h => h) (Or.inl ⟨by rfl, ?_⟩) hHeld ?_
  rotate_left 1
  · (intro w hSw; (try dsimp only at hSw); go_simp; try (with_reducible rfl))
  (try simp only [Act.put]); (try simp only [List.setIfInBounds_toArray]); (try simp only [List.set_cons_succ]); (try simp only [List.set_cons_zero])
  refine takeH 1 19 rfl rfl (v := ?_) (by kernel_rfl) (by kernel_rfl) (by kernel_rfl) (fun _ _ _ h => h) (Or.inl ⟨by rfl, ?_⟩) hHeld ?_
  rotate_left 1
  · (intro w hSw; (try dsimp only at hSw); go_simp; try (with_reducible rfl))
  (try simp only [Act.put]); (try simp only [List.setIfInBounds_toArray]); (try simp only [List.set_cons_succ]); (try simp only [List.set_cons_zero])
  refine takeH 2 20 rfl rfl (v := ?_) (by kernel_rfl) (by kernel_rfl) (by kernel_rfl) (fun _ _ _ h => h) (Or.inl ⟨by rfl, ?_⟩) hHeld ?_
  rotate_left 1
  · (intro w hSw; (try dsimp only at hSw); go_simp; try (with_reducible rfl))
  (try simp only [Act.put]); (try simp only [List.setIfInBounds_toArray]); (try simp only [List.set_cons_succ]); (try simp only [List.set_cons_zero])
  refine takeH 3 21 rfl rfl (v := ?_) (by kernel_rfl) (by kernel_rfl) (by kernel_rfl) (fun _ _ _ h => h) (Or.inl ⟨by rfl, ?_⟩) hHeld ?_
  rotate_left 1
  · (intro w hSw; (try dsimp only at hSw); go_simp; try (with_reducible rfl))
  (try simp only [Act.put]); (try simp only [List.setIfInBounds_toArray]); (try simp only [List.set_cons_succ]); (try simp only [List.set_cons_zero])
  refine takeH 4 22 rfl rfl (v := ?_) (by kernel_rfl) (by kernel_rfl) (by kernel_rfl) (fun _ _ _ h => h) (Or.inl ⟨by rfl, ?_⟩) hHeld ?_
  rotate_left 1
  · (intro w hSw; (try dsimp only at hSw); go_simp; try (with_reducible rfl))
  (try simp only [Act.put]); (try simp only [List.setIfInBounds_toArray]); (try simp only [List.set_cons_succ]); (try simp only [List.set_cons_zero])
  refine takeH 5 23 rfl rfl (v := ?_) (by kernel_rfl) (by kernel_rfl) (by kernel_rfl) (fun _ _ _ h => h) (Or.inl ⟨by rfl, ?_⟩) hHeld ?_
  rotate_left 1
  · (intro w hSw; (try dsimp only at hSw); go_simp; try (with_reducible rfl))
  (try simp only [Act.put]); (try simp only [List.setIfInBounds_toArray]); (try simp only [List.set_cons_succ]); (try simp only [List.set_cons_zero])
  refine takeH 6 24 rfl rfl (v := ?_) (by kernel_rfl) (by kernel_rfl) (by kernel_rfl) (fun _ _ _ h => h) (Or.inl ⟨by rfl, ?_⟩) hHeld ?_
  rotate_left 1
  · (intro w hSw; (try dsimp only at hSw); go_simp; try (with_reducible rfl))
  (try simp only [Act.put]); (try simp only [List.setIfInBounds_toArray]); (try simp only [List.set_cons_succ]); (try simp only [List.set_cons_zero])
  refine takeH 7 25 rfl rfl (v := ?_) (by kernel_rfl) (by kernel_rfl) (by kernel_rfl) (fun _ _ _ h => h) (Or.inl ⟨by rfl, ?_⟩) hHeld ?_
  rotate_left 1
  · (intro w hSw; (try dsimp only at hSw); go_simp; try (with_reducible rfl))
  (try simp only [Act.put]); (try simp only [List.setIfInBounds_toArray]); (try simp only [List.set_cons_succ]); (try simp only [List.set_cons_zero])
  refine takeH 8 26 rfl rfl (v := ?_) (by kernel_rfl) (by kernel_rfl) (by kernel_rfl) (fun _ _ _ h => h) (Or.inl ⟨by rfl, ?_⟩) hHeld ?_
  rotate_left 1
  · (intro w hSw; (try dsimp only at hSw); go_simp; try (with_reducible rfl))
  (try simp only [Act.put]); (try simp only [List.setIfInBounds_toArray]); (try simp only [List.set_cons_succ]); (try simp only [List.set_cons_zero])
  refine takeH 12 30 rfl rfl (v := ?_) (by kernel_rfl) (by kernel_rfl) (by kernel_rfl) (fun _ _ _ h => h) (Or.inl ⟨by rfl, ?_⟩) hHeld ?_
  rotate_left 1
  · (intro w hSw; (try dsimp only at hSw); go_simp; try (with_reducible rfl))
  (try simp only [Act.put]); (try simp only [List.setIfInBounds_toArray]); (try simp only [List.set_cons_succ]); (try simp only [List.set_cons_zero])
  refine takeH 13 31 rfl rfl (v := ?_) (by kernel_rfl) (by kernel_rfl) (by kernel_rfl) (fun _ _ _ h => h) (Or.inl ⟨by rfl, ?_⟩) hHeld ?_
  rotate_left 1
  · (intro w hSw; (try dsimp only at hSw); go_simp; try (with_reducible rfl))
  (try simp only [Act.put]); (try simp only [List.setIfInBounds_toArray]); (try simp only [List.set_cons_succ]); (try simp only [List.set_cons_zero])
  refine wpAnyH_ready (rs := [9]) (by kernel_rfl) (by simp) (AllReadyH.cons rfl (fun K hK => ?_) AllReadyH.nil)
  go_simp
  refine (HCS.out _).mono ?_
  rintro e w5 ⟨rfl, hb⟩
  have hb5 := hbd.trans (hb.mono hbd.size)
  (try dsimp only)
  refine hK.out _ _ (by exact ⟨(HKP.out _ hb5).1, (HKP.out _ hb5).2.1, hb5⟩) (fun hHeld => ?_)
  clear hK K
  (try simp only [Act.put]); (try simp only [List.setIfInBounds_toArray]); (try simp only [List.set_cons_succ]); (try simp only [List.set_cons_zero])
  refine wpAnyH_ready (rs := [10]) (by kernel_rfl) (by simp) (AllReadyH.cons rfl (fun K hK => ?_) AllReadyH.nil)
  go_simp
  have hb6 := hb5.alloc hb5.size (.cells #[.int .i64 n, .int .i64 (d.size : Int), .int .i64 (sm : Int)] 3)
  refine hK.out _ _ (by exact ⟨(HKP.out _ hb6).1, (HKP.out _ hb6).2.1, hb6⟩) (fun hHeld => ?_)
  clear hK K
  (try simp only [Act.put]); (try simp only [List.setIfInBounds_toArray]); (try simp only [List.set_cons_succ]); (try simp only [List.set_cons_zero])
  refine wpAnyH_ready (rs := [11]) (by kernel_rfl) (by simp) (AllReadyH.cons rfl (fun K hK => ?_) AllReadyH.nil)
  go_simp
  refine (HBG.out _).mono ?_
  rintro e w7 ⟨rfl, hb⟩
  have hb7 := hb6.trans (hb.mono hb6.size)
  (try dsimp only)
  refine hK.out _ _ (by exact ⟨(HKP.out _ hb7).1, (HKP.out _ hb7).2.1, hb7⟩) (fun hHeld => ?_)
  clear hK K
  (try simp only [Act.put]); (try simp only [List.setIfInBounds_toArray]); (try simp only [List.set_cons_succ]); (try simp only [List.set_cons_zero])
  refine takeH 14 32 rfl rfl (v := ?_) (by kernel_rfl) (by kernel_rfl) (by kernel_rfl) (fun _ _ _ h => h) (Or.inl ⟨by rfl, ?_⟩) hHeld ?_
  rotate_left 1
  · (intro w hSw; (try dsimp only at hSw); go_simp; try (with_reducible rfl))
  (try simp only [Act.put]); (try simp only [List.setIfInBounds_toArray]); (try simp only [List.set_cons_succ]); (try simp only [List.set_cons_zero])
  refine wpAnyH_ready (rs := [15]) (by kernel_rfl) (by simp) (AllReadyH.cons rfl (fun K hK => ?_) AllReadyH.nil)
  go_simp
  refine hK.out _ _ (by exact ⟨(HKP.out _ hb7).1, (HKP.out _ hb7).2.1, hb7⟩) (fun hHeld => ?_)
  clear hK K
  (try simp only [Act.put]); (try simp only [List.setIfInBounds_toArray]); (try simp only [List.set_cons_succ]); (try simp only [List.set_cons_zero])
  refine wpAnyH_ready (rs := [16]) (by kernel_rfl) (by simp) (AllReadyH.cons rfl (fun K hK => ?_) AllReadyH.nil)
  go_simp
  refine hK.out _ _ (by exact ⟨(HKP.out _ hb7).1, (HKP.out _ hb7).2.1, hb7⟩) (fun hHeld => ?_)
  clear hK K
  (try simp only [Act.put]); (try simp only [List.setIfInBounds_toArray]); (try simp only [List.set_cons_succ]); (try simp only [List.set_cons_zero])
  refine wpAnyH_done (by kernel_rfl) ?_ _
  go_wp2
  go_ret2
  exact ⟨by rw [HE.out]; rfl, (HKP.out _ hb7).2.2⟩
end Go.Proofs.Ytbkfkbacejhpeaa
