/- What allowed, Get and the map of no bytes' positions are, and strings.Cut at one byte 0; the document's May, Get and Few. Conditions: strings of at most 2^40 bytes, places of 64 bits. -/
import Derived.Test.YtfcclppgjfkfoaaGreatDoorShelf
import Derived.Test.YtfcclppgjfkfoaaGreatDoorMg0
import Derived.Test.YtfcclppgjfkfoaaGreatDoorMg6
import Derived.Laws.IdiomStrings
import Derived.Deep.QuietTactic
import Derived.BigQuiet
import Derived.IntWalk
import Derived.Test.YtfcclppgjfkfoaaGreatDoorMg3
import Derived.Test.YtfcclppgjfkfoaaGreatDoorMg11
namespace Go.Proofs.YtfcclppgjfkfoaaGreatDoor
open Go.RowKit

theorem sallowed_any (s : ByteArray) (w : World) (hl : s.size ≤ maxLen) : Calls Tryz.prog 107 #[.string s] w fun e w' => e = .returned (.bool (mayB s)) ∧ w = w' := by
  have hz := indexByte_z0 s.data.toList
  have hm := z0_mem s.data.toList
  have hlen : s.data.toList.length = s.size := rfl
  have HI := Lib.hid (Tryz.strings_IndexByte s 0)
  have h0 : (0 : Int).toNat.toUInt8 = 0 := rfl
  rw [h0, hz] at HI
  unfold maxLen at hl
  by_cases h1 : 1 ≤ s.size
  · by_cases h2 : s.size ≤ 31
    · have d1 : decide ((1 : Int) ≤ s.size) = true := decide_eq_true (by omega)
      have d2 : decide ((s.size : Int) ≤ 31) = true := decide_eq_true (by omega)
      by_cases h3 : z0 s.data.toList < s.data.toList.length
      · have hf : mayB s = false := by cases e : mayB s with
          | false => rfl
          | true => exact absurd (hm.2 h3) (mayB_iff.1 e).2.2
        rw [hf]
        rw [if_pos h3] at HI
        have d3 : decide (((z0 s.data.toList : Nat) : Int) < 0) = false := decide_eq_false (by omega)
        generalize z0 s.data.toList = z at *
        clear hz hm h3 hf hlen h1 h2
        go_enter Tryz.func107, Tryz.ntmps107
        go_wp2_with fail
        refine (HI.out _).mono ?_
        rintro e w1 ⟨rfl, rfl⟩
        go_wp2
        go_ret
        exact ⟨rfl, rfl⟩
      · have hf : mayB s = true := mayB_iff.2 ⟨h1, h2, fun h => h3 (hm.1 h)⟩
        rw [hf]
        rw [if_neg h3] at HI
        clear hz hm h3 hf hlen h1 h2
        go_enter Tryz.func107, Tryz.ntmps107
        go_wp2_with fail
        refine (HI.out _).mono ?_
        rintro e w1 ⟨rfl, rfl⟩
        go_wp2
        go_ret
        exact ⟨rfl, rfl⟩
    · have hf : mayB s = false := by cases e : mayB s with
        | false => rfl
        | true => exact absurd (mayB_iff.1 e).2.1 h2
      rw [hf]
      have d1 : decide ((1 : Int) ≤ s.size) = true := decide_eq_true (by omega)
      have d2 : decide ((s.size : Int) ≤ 31) = false := decide_eq_false (by omega)
      clear hz hm hf hlen h1 h2
      go_enter Tryz.func107, Tryz.ntmps107
      go_wp2
      go_ret
      exact ⟨rfl, rfl⟩
  · have hf : mayB s = false := by cases e : mayB s with
      | false => rfl
      | true => exact absurd (mayB_iff.1 e).1 h1
    rw [hf]
    have d1 : decide ((1 : Int) ≤ s.size) = false := decide_eq_false (by omega)
    clear hz hm hf hlen h1
    go_enter Tryz.func107, Tryz.ntmps107
    go_wp2
    go_ret
    exact ⟨rfl, rfl⟩

/-- internal/stringslite.Cut at one byte. -/
theorem scut0_lite (s : ByteArray) (w : World) (hl : s.size ≤ maxLen) : Calls Tryz.prog 135 #[.string s, .string ⟨#[0]⟩] w fun e w' =>
    (∃ r, e = .returned (.tuple #[.string (if z0 s.data.toList < s.size then s.extract 0 (z0 s.data.toList) else s), .string r, .bool (decide (z0 s.data.toList < s.size))])) ∧ ∃ n, w' = w.drewN n := by
  have hz := indexByte_z0 s.data.toList
  have hlen : s.data.toList.length = s.size := rfl
  have HI := Lib.hid (Tryz.stringslite_Index_one s 0)
  rw [hz, hlen] at HI
  unfold maxLen at hl
  by_cases h3 : z0 s.data.toList < s.size
  · rw [if_pos h3] at HI
    rw [if_pos h3, decide_eq_true h3]
    generalize z0 s.data.toList = z at *
    have c0 : (0 : Int) ≤ z := by omega
    have c1 : (z : Int) ≤ s.size := by omega
    have c2 : (0 : Int) ≤ (z : Int) + 1 := by omega
    have c3 : (z : Int) + 1 ≤ s.size := by omega
    have d0 : decide ((0 : Int) ≤ (z : Int)) = true := decide_eq_true (by omega)
    clear hz hlen
    go_enter Tryz.func135, Tryz.ntmps135
    go_wp2_with fail
    refine (HI.out _).mono ?_
    rintro e w1 ⟨rfl, rfl⟩
    go_wp2
    go_quiet (fail)
    go_wp2
    go_ret3
    exact ⟨⟨_, rfl⟩, _, rfl⟩
  · rw [if_neg h3] at HI
    rw [if_neg h3, decide_eq_false h3]
    clear hz hlen
    go_enter Tryz.func135, Tryz.ntmps135
    go_wp2_with fail
    refine (HI.out _).mono ?_
    rintro e w1 ⟨rfl, rfl⟩
    go_wp2
    go_ret3
    exact ⟨⟨_, rfl⟩, 0, rfl⟩
theorem scut0_any (s : ByteArray) (w : World) (hl : s.size ≤ maxLen) : Calls Tryz.prog 131 #[.string s, .string ⟨#[0]⟩] w fun e w' =>
    (∃ r, e = .returned (.tuple #[.string (if z0 s.data.toList < s.size then s.extract 0 (z0 s.data.toList) else s), .string r, .bool (decide (z0 s.data.toList < s.size))])) ∧ ∃ n, w' = w.drewN n := by
  have HI := Lib.hid (scut0_lite s w hl)
  generalize decide (z0 s.data.toList < s.size) = d at *
  generalize (if z0 s.data.toList < s.size then s.extract 0 (z0 s.data.toList) else s) = x at *
  go_enter Tryz.func131, Tryz.ntmps131
  go_wp2_with fail
  refine HI.out.mono ?_
  rintro e w1 ⟨⟨r, rfl⟩, n, rfl⟩
  go_wp2
  go_ret3
  exact ⟨⟨_, rfl⟩, n, rfl⟩
end Go.Proofs.YtfcclppgjfkfoaaGreatDoor

/- What Get and the document's Get return: the string at a place of bytes; the document's May and Few. Conditions: strings that fit, places of 64 bits. -/
namespace Go.Proofs.YtfcclppgjfkfoaaGreatDoor
open Go.RowKit

theorem ext_list (s : ByteArray) (a b : Nat) : (s.extract a b).data.toList = (s.data.toList.take b).drop a := by
  rw [ByteArray.data_extract, Array.toList_extract, List.extract_eq_take_drop, List.drop_take]
theorem cut_list (s : ByteArray) (a : Nat) : (s.extract a s.size).data.toList = s.data.toList.drop a := by
  rw [ext_list, List.take_of_length_le (by show s.data.toList.length ≤ s.size; exact Nat.le_refl _)]
theorem ba_eq (s : ByteArray) : s = ⟨s.data.toList.toArray⟩ := by cases s; simp
/-- The three ends of Get. -/
theorem getR_range {l : List UInt8} {p : Int} (h : p < 0 ∨ (l.length : Int) ≤ p) : getR l p = (ByteArray.empty, 2) := by unfold getR; rw [if_pos h]
theorem getR_in (s : ByteArray) (a : Nat) (h : a < s.size) : getR s.data.toList a = if z0 (s.data.toList.drop a) < s.size - a then (s.extract a (a + z0 (s.data.toList.drop a)), 0) else (ByteArray.empty, 6) := by
  have hlen : s.data.toList.length = s.size := rfl
  unfold getR
  rw [if_neg (by omega), Int.toNat_natCast, List.length_drop, hlen]
  split
  · congr 1
    rw [ba_eq (s.extract _ _), ext_list]
    congr 2
    rw [List.take_drop]
  · rfl

set_option maxHeartbeats 800000 in
set_option maxRecDepth 100000 in
theorem sget_any (s : ByteArray) (p : Int) (w : World) (hl : s.size ≤ maxLen) (h1 : p < 9223372036854775808) (h2 : -9223372036854775808 ≤ p) :
    Calls Tryz.prog 120 #[.string s, .int .i64 p] w fun e w' => e = .returned (.tuple #[.string (getR s.data.toList p).1, .int .i64 ((getR s.data.toList p).2 : Int)]) ∧ ∃ n, w' = w.drewN n := by
  have hlen : s.data.toList.length = s.size := rfl
  have hl' := hl
  unfold maxLen at hl'
  by_cases h0 : p < 0
  · rw [getR_range (.inl h0)]
    have d0 : decide (p < 0) = true := decide_eq_true h0
    clear h0 hlen hl
    go_enter Tryz.func120, Tryz.ntmps120
    go_wp2
    go_ret2
    exact ⟨rfl, 0, rfl⟩
  obtain ⟨a, rfl⟩ := Int.eq_ofNat_of_zero_le (by omega : 0 ≤ p)
  have d0 : decide ((a : Int) < 0) = false := decide_eq_false h0
  by_cases h3 : a < s.size
  · have d1 : decide ((s.size : Int) ≤ (a : Int)) = false := decide_eq_false (by omega)
    have d1' : decide (s.size ≤ a) = false := decide_eq_false (by omega)
    have HC := Lib.hid (fun W => scut0_any (s.extract a s.size) W (by rw [ByteArray.size_extract]; omega))
    rw [getR_in s a h3]
    rw [cut_list] at HC
    have hsz : (s.extract a s.size).size = s.size - a := by rw [ByteArray.size_extract]; omega
    rw [hsz] at HC
    have HEX : Hid (z0 (s.data.toList.drop a) < s.size - a → (s.extract a s.size).extract 0 (z0 (s.data.toList.drop a)) = s.extract a (a + z0 (s.data.toList.drop a))) := by
      intro hz
      rw [ba_eq (ByteArray.extract _ _ _), ba_eq (s.extract a (a + _)), ext_list, cut_list, ext_list, List.drop_zero, List.take_drop]
    generalize z0 (s.data.toList.drop a) = z at *
    have c0 : (0 : Int) ≤ a := by omega
    have c1 : (a : Int) ≤ s.size := by omega
    by_cases hz : z < s.size - a
    · have hex := HEX.out hz
      rw [if_pos hz, hex, decide_eq_true hz] at HC
      rw [if_pos hz]
      clear HEX hex hz hsz h3 h0 hlen hl h1 h2
      go_enter Tryz.func120, Tryz.ntmps120
      go_wp2_with fail
      refine (HC.out _).mono ?_
      rintro e w1 ⟨⟨r, rfl⟩, n, rfl⟩
      go_wp2
      go_ret2
      exact ⟨rfl, n, rfl⟩
    · rw [if_neg hz, decide_eq_false hz] at HC
      rw [if_neg hz]
      clear HEX hz hsz h3 h0 hlen hl h1 h2
      go_enter Tryz.func120, Tryz.ntmps120
      go_wp2_with fail
      refine (HC.out _).mono ?_
      rintro e w1 ⟨⟨r, rfl⟩, n, rfl⟩
      go_wp2
      go_ret2
      exact ⟨rfl, n, rfl⟩
  · have d1 : decide ((s.size : Int) ≤ (a : Int)) = true := decide_eq_true (by omega)
    have d1' : decide (s.size ≤ a) = true := decide_eq_true (by omega)
    rw [getR_range (.inr (by rw [hlen]; omega))]
    clear h0 hlen hl h3
    go_enter Tryz.func120, Tryz.ntmps120
    go_wp2
    go_ret2
    exact ⟨rfl, 0, rfl⟩

end Go.Proofs.YtfcclppgjfkfoaaGreatDoor

/- The document's MayKid and props of layer 17. Conditions: strings of at most 2^40 bytes; a slice of at most 10^6 properties that is read. -/
namespace Go.Proofs.YtfcclppgjfkfoaaGreatDoor
open Go.RowKit

theorem pr_one (a b : ByteArray) : (#[.string a, .string b] : Array Value).all (·.oneCell') = true := by
  rw [Array.all_eq_true_iff_forall_mem]
  intro v hv
  simp at hv
  rcases hv with rfl | rfl <;> rfl
theorem pr_oneL (a b : ByteArray) : ∀ u ∈ (#[.string a, .string b] : Array Value).toList, u.oneCell' = true := by
  intro u hu; simp at hu; rcases hu with rfl | rfl <;> rfl
theorem infoPr (a b : Value) : (Tryz.prog.info? 92).map (·.size) = some (#[a, b] : Array Value).size := by show _ = some 2; kernel_rfl
theorem prL_snoc (l : List PR) (x : PR) : prL l ++ #[Value.string x.nm, .string x.vl].toList = prL (l ++ [x]) := by rw [prL_app]; rfl

end Go.Proofs.YtfcclppgjfkfoaaGreatDoor

/- Nodes made of slices of one's own, and how a list of kids is gone through when one of them is taken out or changed. No condition: nothing of the program stands in it but types. -/
namespace Go.Proofs.YtfcclppgjfkfoaaGreatDoor
open Go.RowKit

/-- A tree that is there. -/
def NdIn (w : World) (n : ND) (y z : Value) : Prop := NdAt w (fun k => k < w.heap.size) n y z
theorem NdIn.below {w w' : World} {n : ND} {y z : Value} (h : NdIn w n y z) (hb : Below w.heap.size w w') : NdIn w' n y z := (nd_below h hb).mono fun _ hk => Nat.lt_of_lt_of_le hk hb.size
theorem NdIn.of {w : World} {G : Nat → Prop} {n : ND} {y z : Value} (h : NdAt w G n y z) : NdIn w n y z := nd_lt h
/-- A tree beside one block that changes. -/
theorem NdIn.grown {w w' : World} {n : ND} {y z : Value} {B g : Nat} (h : NdAt w (fun k => k < B) n y z) (hg : w.grownBy w' (some g)) (hB : B ≤ g) : NdIn w' n y z := nd_lt (nd_grown h hg hB)
theorem rdPr_row {w : World} {B : Nat} {v : Value} {ps : List PR} (G : Nat → Prop) (h : w.ownsRow B 92 2 v ps.length (prL ps)) (hG : ∀ k, v.ownBlock = some k → G k) : ∃ A pc, v = .slice A ps.length pc ∧ RdPr w G A ps ∧ ps.length ≤ pc ∧ pc ≤ maxLen := by
  obtain ⟨A, pc, ep, h1, h2, h3⟩ := row_form h
  refine ⟨A, pc, ep, ?_, h1, h2⟩
  rcases h3 with h3 | ⟨b, rfl, hb, hc⟩
  · exact .inl (List.length_eq_zero_iff.1 h3)
  · refine .inr ⟨b, 0, rfl, hG b hb, fun k hk => ?_⟩
    refine ⟨?_, ?_⟩
    · rw [Nat.zero_add, show k * 2 = k * 2 + 0 from rfl, hc _ (by omega), prL_at ps hk (by omega)]; rfl
    · rw [Nat.zero_add, hc _ (by omega), prL_at ps hk (by omega)]; rfl
/-- A node of properties that are there and of kids in a slice of one's own. -/
theorem nd_make {w : World} {G : Nat → Prop} {nm : ByteArray} {ps : List PR} {A : Option Addr} {pc B : Nat} {q : Value} {kl : List KD} (hp : RdPr w G A ps) (h1 : ps.length ≤ pc) (h2 : pc ≤ maxLen)
    (hq : w.ownsRow B 28 3 q kl.length (kdL kl)) (hG : ∀ k, q.ownBlock = some k → G k) (hk : ∀ c ∈ kl, NdAt w G c.nd c.y c.z) : NdAt w G (.mk nm ps (kl.map KD.nd)) (.slice A ps.length pc) q := by
  obtain ⟨K, kc, eq_, g1, g2, g3⟩ := row_form hq
  have hkl : (kl.map KD.nd).length = kl.length := List.length_map _
  have hget : ∀ i, i < kl.length → (kl.map KD.nd).getD i nd0 = (kl.getD i kd0).nd := fun i hi => by
    rw [List.getD_eq_getElem?_getD, List.getElem?_map, List.getD_eq_getElem?_getD, List.getElem?_eq_getElem hi]; rfl
  have M := @NdAt.mk w G nm ps (kl.map KD.nd) A K pc kc (fun i => (kl.getD i kd0).y) (fun i => (kl.getD i kd0).z) hp
    h1 h2 (by rw [hkl]; exact g1) g2
    (by
      rcases g3 with g3 | ⟨b, rfl, hb, hc⟩
      · exact .inl (List.length_eq_zero_iff.1 (by rw [hkl]; exact g3))
      · refine .inr ⟨b, 0, rfl, hG b hb, fun i hi => ?_⟩
        rw [hkl] at hi
        rw [hget i hi]
        refine ⟨?_, ?_, ?_⟩
        · rw [Nat.zero_add, show i * 3 = i * 3 + 0 from rfl, hc _ (by omega), kdL_at kl hi (by omega)]; rfl
        · rw [Nat.zero_add, hc _ (by omega), kdL_at kl hi (by omega)]; rfl
        · rw [Nat.zero_add, hc _ (by omega), kdL_at kl hi (by omega)]; rfl)
    (fun i hi => by
      rw [hkl] at hi
      rw [hget i hi]
      refine hk _ ?_
      rw [List.getD_eq_getElem?_getD, List.getElem?_eq_getElem hi]
      exact List.getElem_mem hi)
  rw [hkl] at M
  rw [eq_]
  exact M
/-- The same node with other properties, or with other kids. -/
theorem nd_withProps {w : World} {G : Nat → Prop} {n : ND} {y : Value} {K : Option Addr} {kn kc B : Nat} {v : Value} {ps : List PR} (h : NdAt w G n y (.slice K kn kc)) (hv : w.ownsRow B 92 2 v ps.length (prL ps)) (hG : ∀ k, v.ownBlock = some k → G k) : NdAt w G (.mk n.nm ps n.ks) v (.slice K kn kc) := by
  obtain ⟨A, pc, rfl, hp, h1, h2⟩ := rdPr_row G hv hG
  cases h with
  | mk nm ps' ks A' K pc' kc p q hp' hpc hpm hkc hkm hK hk => exact .mk nm ps ks A K pc kc p q hp h1 h2 hkc hkm hK hk
theorem nd_withKids {w : World} {G : Nat → Prop} {n : ND} {z : Value} {A : Option Addr} {pn pc B : Nat} {q : Value} {kl : List KD} (h : NdAt w G n (.slice A pn pc) z) (hq : w.ownsRow B 28 3 q kl.length (kdL kl)) (hG : ∀ k, q.ownBlock = some k → G k) (hk : ∀ c ∈ kl, NdAt w G c.nd c.y c.z) : NdAt w G (.mk n.nm n.ps (kl.map KD.nd)) (.slice A pn pc) q := by
  cases h with
  | mk nm ps ks A K pc kc p q' hp hpc hpm hkc hkm hK hk' => exact nd_make hp hpc hpm hq hG hk
/-- How far kids have been gone through; T: what comes where one of the name is there. -/
def KdGo (nm : ByteArray) (T : List ND) (l : List ND) (k : Nat) (is : Bool) (O : List ND) : Prop :=
  (is = false ∧ O = l.take k ∧ ∀ j, j < k → decide ((l.getD j nd0).nm = nm) = false) ∨ (is = true ∧ T = O ++ l.drop k)
theorem kdgo_start (nm : ByteArray) (T l : List ND) : KdGo nm T l 0 false [] := .inl ⟨rfl, rfl, fun _ h => absurd h (Nat.not_lt_zero _)⟩
theorem kdgo_other {nm : ByteArray} {T l : List ND} {k : Nat} {O : List ND} (hk : k < l.length) (h : KdGo nm T l k false O) (hn : ¬ (l.getD k nd0).nm = nm) : KdGo nm T l (k + 1) false (O ++ [l.getD k nd0]) := by
  rcases h with ⟨_, h, hj⟩ | ⟨h, _⟩
  · refine .inl ⟨rfl, by rw [h, take_getD nd0 l hk], fun j hj' => ?_⟩
    by_cases e : j = k
    · rw [e]; exact decide_eq_false hn
    · exact hj j (by omega)
  · cases h
theorem kdgo_later {nm : ByteArray} {T l : List ND} {k : Nat} {O : List ND} (hk : k < l.length) (h : KdGo nm T l k true O) : KdGo nm T l (k + 1) true (O ++ [l.getD k nd0]) := by
  rcases h with ⟨h, _⟩ | ⟨_, h⟩
  · cases h
  · refine .inr ⟨rfl, ?_⟩
    rw [h, drop_getD nd0 l hk]; simp
theorem kdgo_gone {nm : ByteArray} {l : List ND} {k : Nat} {O : List ND} (hk : k < l.length) (h : KdGo nm (withoutR nm l) l k false O) (hn : (l.getD k nd0).nm = nm) : KdGo nm (withoutR nm l) l (k + 1) true O := by
  rcases h with ⟨_, h, hj⟩ | ⟨h, _⟩
  · exact .inr ⟨rfl, by rw [without_hit hk hj hn, h]⟩
  · cases h
theorem kdgo_put {nm : ByteArray} {m : ND} {l : List ND} {k : Nat} {O : List ND} (hk : k < l.length) (h : KdGo nm (replR nm m l) l k false O) (hn : (l.getD k nd0).nm = nm) : KdGo nm (replR nm m l) l (k + 1) true (O ++ [m]) := by
  rcases h with ⟨_, h, hj⟩ | ⟨h, _⟩
  · refine .inr ⟨rfl, ?_⟩
    rw [repl_hit hk hj hn, h]; simp
  · cases h
/-- The first of the name. -/
theorem kdgo_kid {n : ND} {nm : ByteArray} {T : List ND} {k : Nat} {O : List ND} (hk : k < n.ks.length) (h : KdGo nm T n.ks k false O) (hn : (n.ks.getD k nd0).nm = nm) : kidR n nm = some (n.ks.getD k nd0) := by
  rcases h with ⟨_, _, hj⟩ | ⟨h, _⟩
  · exact find_take (f := fun x : ND => decide (x.nm = nm)) (d := nd0) hk hj (decide_eq_true hn)
  · cases h
theorem kdgo_end_yes {nm : ByteArray} {T l O : List ND} (h : KdGo nm T l l.length true O) : T = O := by
  rcases h with ⟨h, _⟩ | ⟨_, h⟩
  · cases h
  · rw [h, List.drop_length, List.append_nil]
theorem kdgo_end_no {n : ND} {nm : ByteArray} {T O : List ND} (h : KdGo nm T n.ks n.ks.length false O) : kidR n nm = none ∧ O = n.ks := by
  rcases h with ⟨_, h, hj⟩ | ⟨h, _⟩
  · exact ⟨find_none (f := fun x : ND => decide (x.nm = nm)) (d := nd0) hj, by rw [h, List.take_length]⟩
  · cases h
theorem kdgo_len {nm : ByteArray} {T l : List ND} {k : Nat} {is : Bool} {O : List ND} (h : KdGo nm T l k is O) (hT : T.length ≤ l.length) : O.length ≤ l.length := by
  rcases h with ⟨_, h, _⟩ | ⟨_, h⟩
  · rw [h, List.length_take]; omega
  · rw [h, List.length_append] at hT; omega
theorem without_len {nm : ByteArray} : ∀ {l : List ND}, (withoutR nm l).length ≤ l.length
  | [] => Nat.le_refl _
  | x :: r => by
    rw [withoutR]
    split
    · simp
    · have := without_len (nm := nm) (l := r)
      simp only [List.length_cons]; omega
theorem kdL_snoc (l : List KD) (x : KD) : kdL l ++ #[Value.string x.nd.nm, x.y, x.z].toList = kdL (l ++ [x]) := by rw [kdL_app]; rfl
/-- A node's kids as closed kids, and where they lie. -/
theorem nd_kids {w : World} {G : Nat → Prop} {n : ND} {v2 : Value} {K : Option Addr} {kn kc : Nat} (h : NdAt w G n v2 (.slice K kn kc)) : ∃ kl : List KD, kl.map KD.nd = n.ks ∧ (∀ c ∈ kl, NdAt w G c.nd c.y c.z) ∧ kn = kl.length ∧ kl.length ≤ kc ∧
    (kl = [] ∨ ∃ b off, K = some ⟨b, off, none⟩ ∧ ∀ j u, (kdL kl)[j]? = some u → w.cell? ⟨b, off + j, none⟩ = some u) := by
  cases h with
  | mk nm ps ks A K pc kc p q hp hpc hpm hkc hkm hK hk =>
    refine ⟨(List.range ks.length).map fun i => ⟨ks.getD i nd0, p i, q i⟩, ?_, ?_, by simp, by simpa using hkc, ?_⟩
    · rw [List.map_map]
      apply List.ext_getElem?
      intro i
      rw [List.getElem?_map]
      show Option.map (fun i => ks.getD i nd0) _ = ks[i]?
      by_cases hi : i < ks.length
      · rw [List.getElem?_range hi, Option.map_some, List.getD_eq_getElem?_getD, List.getElem?_eq_getElem hi]; rfl
      · rw [List.getElem?_eq_none (by simpa using hi), List.getElem?_eq_none (by simpa using hi)]; rfl
    · intro c hc
      obtain ⟨i, hi, rfl⟩ := List.mem_map.1 hc
      exact hk i (List.mem_range.1 hi)
    · rcases hK with h | ⟨b, off, rfl, _, hc⟩
      · exact .inl (by rw [h]; rfl)
      · refine .inr ⟨b, off, rfl, fun j u hj => ?_⟩
        have hlen : (kdL ((List.range ks.length).map fun i => (⟨ks.getD i nd0, p i, q i⟩ : KD))).length = ks.length * 3 := by rw [kdL, flat_len (f := kdl) (n := 3) (fun _ => rfl)]; simp
        have hjl : j < ks.length * 3 := by rw [← hlen]; exact (List.getElem?_eq_some_iff.1 hj).1
        have hi : j / 3 < ks.length := by omega
        have hg : (((List.range ks.length).map fun i => (⟨ks.getD i nd0, p i, q i⟩ : KD)).getD (j / 3) kd0) = ⟨ks.getD (j / 3) nd0, p (j / 3), q (j / 3)⟩ := by
          rw [List.getD_eq_getElem?_getD, List.getElem?_map, List.getElem?_range hi]; rfl
        have hat := kdL_at ((List.range ks.length).map fun i => (⟨ks.getD i nd0, p i, q i⟩ : KD)) (k := j / 3) (j := j % 3) (by simpa using hi) (by omega)
        rw [show j / 3 * 3 + j % 3 = j by omega, hj, hg] at hat
        obtain ⟨h1, h2, h3⟩ := hc (j / 3) hi
        have hm : j % 3 = 0 ∨ j % 3 = 1 ∨ j % 3 = 2 := by omega
        rcases hm with hm | hm | hm
        · rw [hm] at hat
          rw [show off + j = off + j / 3 * 3 by omega, h1]
          exact hat.symm
        · rw [hm] at hat
          rw [show off + j = off + j / 3 * 3 + 1 by omega, h2]
          exact hat.symm
        · rw [hm] at hat
          rw [show off + j = off + j / 3 * 3 + 2 by omega, h3]
          exact hat.symm
/-- One cell of one block, and a row of another one, are stored. -/
theorem moved_two (w : World) (g2 g4 j : Nat) (v : Value) (cs : Array Value) : Moved w ((w.setCell ⟨g2, j, none⟩ v).setRow g4 cs) (fun k => k = g2 ∨ k = g4) (fun k => k = g2 ∨ k = g4) :=
  (Moved.grown (gr_cell w g2 j v) (fun k hk => .inl (by injection hk with hk; exact hk.symm)) (fun k hk => .inl hk)).trans
    ((moved_setRow (w.setCell ⟨g2, j, none⟩ v) g4 cs).inside (G := fun k => k = g2 ∨ k = g4) (fun k hk => .inr hk) (fun k hk => .inl hk))
theorem nd_leaf (w : World) (G : Nat → Prop) (nm : ByteArray) : NdAt w G (.mk nm [] []) (.slice none 0 0) (.slice none 0 0) :=
  .mk nm [] [] none none 0 0 (fun _ => .slice none 0 0) (fun _ => .slice none 0 0) (.inl rfl) (Nat.le_refl _) (Nat.zero_le _) (Nat.le_refl _) (Nat.zero_le _) (.inl rfl) (fun _ hi => absurd hi (Nat.not_lt_zero _))
/-- A tree of older blocks beside those that have changed, among the old ones and the new. -/
def OrNew (G : Nat → Prop) (B k : Nat) : Prop := G k ∨ B ≤ k
theorem nd_two {w w' : World} {G F F' : Nat → Prop} {B : Nat} {n : ND} {y z : Value} (h : NdAt w (fun k => G k ∧ k < B) n y z) (hm : Moved w w' F F') (hF : ∀ k, k < B → ¬ F k) : NdAt w' (OrNew G B) n y z := (h.kept hm (fun k hk => hF k hk.2)).mono fun _ hk => .inl hk.1
section
variable {P : Program} {ops : Array Oper} {rest : List Oper} {o : Oper} {a : Act} {Q : Exit → Act → World → Prop} {w : World}
/-- 's = append(s, r...)', r any slice whose cells are told. -/
theorem append_cells (hgd : o.guard = none) (s y : Operand) (t : TypeId) (ho : o.op = .call { callee := .builtin .append, args := #[s, y], argTypes := #[t, t] })
    (e size bytes : Nat) (hel : Hid (ElemN P t e size bytes)) (v : Value) (n m cap : Nat) (R : Option Addr) (xs ys : List Value) (hs : a.eval s = v) (hown : w.ownsRow 0 e size v n xs) (hx : a.eval y = .slice R m cap) (hyl : ys.length = m * size) (hmc : m ≤ cap)
    (hr : m = 0 ∨ ∃ b off, R = some ⟨b, off, none⟩ ∧ ∀ j u, ys[j]? = some u → w.cell? ⟨b, off + j, none⟩ = some u) (h1 : ∀ x ∈ ys, x.oneCell' = true)
    (hm : n + m ≤ maxLen) (hb : (n + m) * bytes ≤ 140737488355328)
    (h : ∀ v' w', w'.ownsRow 0 e size v' (n + m) (xs ++ ys) → Moved w w' (ownS v) (ownS v') → wpList P ops Q rest (a.put o.dst v') w') : wpList P ops Q (o :: rest) a w := by
  obtain ⟨h0, i, z, hi, hz0, hz1, hz2, hz3, hz4⟩ := hel.out
  by_cases hp : m = 0 ∧ ¬ ∃ b off, R = some ⟨b, off, none⟩ ∧ ∀ j u, ys[j]? = some u → w.cell? ⟨b, off + j, none⟩ = some u
  · obtain ⟨rfl, _⟩ := hp
    have hy0 : ys = [] := List.length_eq_zero_iff.1 (by rw [hyl]; omega)
    subst hy0
    obtain ⟨A, c, hv, hcap⟩ := slice_ofN hown
    have hrun : ∀ ty, (Builtin.append_ #[t, t] ty #[v, .slice R 0 cap]).run P w = .ok v w := fun ty => by
      rw [hv]
      cases A <;> cases R <;> simp [Builtin.append_, run_underlying h0, sizeOf, typeInfo, hi, Builtin.lenOf, Builtin.firstCells, hcap, storeCells, loadCells, loadCellsFrom]
    refine wpList_plain hgd fun K hK => ?_
    unfold Oper.wp execOp
    simp only [ho, resolve, invoke, builtin, Sem.run_bind, Sem.run_pure, Result.andThen_ok, List.map_toArray, List.map_cons, List.map_nil, hs, hx, hrun]
    exact hK _ _ (h v w (by rw [Nat.add_zero, List.append_nil]; exact hown) (Moved.refl _ _))
  · have hr' : ∃ b off, R = some ⟨b, off, none⟩ ∧ ∀ j u, ys[j]? = some u → w.cell? ⟨b, off + j, none⟩ = some u := by
      rcases hr with hr | hr
      · exact Classical.byContradiction fun hh => hp ⟨hr, hh⟩
      · exact hr
    obtain ⟨b, off, rfl, hc⟩ := hr'
    refine wpList_append_own_at _ hgd s y t ho 0 e i z size bytes h0 hi hz0 hz1 hz2 hz3 hz4 v n xs hs hown ⟨b, off, none⟩ m cap ys hx hyl ?_ h1 hm hb (Nat.zero_le _) ?_
    · intro j u hj
      have e : (⟨b, off, none⟩ : Addr).add j = ⟨b, off + j, none⟩ := by unfold Addr.add; split <;> simp_all
      rw [e]; exact hc j u hj
    · intro v' w' ho' hg _ hl
      refine h v' w' ho' (Moved.of_grown hg ?_)
      rcases hl with hl | hl
      · exact .inl hl
      · exact .inr ⟨_, hl, Nat.le_refl _⟩
end
end Go.Proofs.YtfcclppgjfkfoaaGreatDoor

/- The document's without of layer 17. Conditions: a node of at most 10^6 kids that is read. -/
namespace Go.Proofs.YtfcclppgjfkfoaaGreatDoor
open Go.RowKit

theorem nd_oneL (a : ByteArray) (P : Option Addr) (pn pc : Nat) (Q : Option Addr) (qn qc : Nat) : ∀ u ∈ (#[.string a, .slice P pn pc, .slice Q qn qc] : Array Value).toList, u.oneCell' = true := by
  intro u hu; simp at hu; rcases hu with rfl | rfl | rfl <;> rfl
theorem nd_one (a : ByteArray) (P : Option Addr) (pn pc : Nat) (Q : Option Addr) (qn qc : Nat) : (#[.string a, .slice P pn pc, .slice Q qn qc] : Array Value).all (·.oneCell') = true := by
  rw [Array.all_eq_true_iff_forall_mem]
  intro v hv
  simp at hv
  rcases hv with rfl | rfl | rfl <;> rfl

end Go.Proofs.YtfcclppgjfkfoaaGreatDoor

/- The document's here of layer 17: a change at a node. Conditions: a node of at most 10^6 properties and kids that is read; names of at most 2^40 bytes. -/
namespace Go.Proofs.YtfcclppgjfkfoaaGreatDoor
open Go.RowKit

end Go.Proofs.YtfcclppgjfkfoaaGreatDoor
