/- What package record must do, said over nothing of its code; and the awake() of layer 20's statements. Conditions: those contracts. -/
import Derived.Test.YtbkfkbacejhpeaaReB
namespace Go.Proofs.Ytbkfkbacejhpeaa
open Go.RowKit

/-- A number of 64 bits. -/
def I64 (n : Int) : Prop := -9223372036854775808 ≤ n ∧ n < 9223372036854775808
structure RecordMust : Prop where
  body : ∀ (r : RC) (w : World), I64 r.sr → r.da.size ≤ 1000000 → Calls Try.prog 7 #[.agg #[.int .i64 r.sr, .string r.da]] w fun e w' => e = .returned (.tuple #[.string (body20 r).1, .int .i64 ((body20 r).2 : Nat)]) ∧ Below w.heap.size w w'
  read : ∀ (s : ByteArray) (w : World), s.size ≤ 1000000 → Calls Try.prog 9 #[.string s] w fun e w' => e = .returned (.tuple #[.agg #[.int .i64 (read20 s.data.toList).1.sr, .string (read20 s.data.toList).1.da], .int .i64 ((read20 s.data.toList).2 : Nat)]) ∧ Below w.heap.size w w'
  newer : ∀ (a b : Int) (w : World), I64 a → I64 b → Calls Try.prog 11 #[.int .i64 a, .int .i64 b] w fun e w' => e = .returned (.bool (newer20 a b)) ∧ Below w.heap.size w w'
  next : ∀ (n : Int) (w : World), I64 n → Calls Try.prog 13 #[.int .i64 n] w fun e w' => e = .returned (.int .i64 (next20 n)) ∧ Below w.heap.size w w'

def d20 : ByteArray := ⟨#[97, 61, 49]⟩
theorem body_seven : body20 ⟨7, d20⟩ = (⟨(bytes20 7 d20.data.toList).toArray⟩, 0) := rfl
theorem size_app20 (a b : List UInt8) : (⟨(a ++ b).toArray⟩ : ByteArray).size = a.length + b.length := by rw [size_mk, List.length_append]

set_option maxHeartbeats 3200000 in
set_option maxRecDepth 100000 in
theorem awake20 (M : RecordMust) (w : World) : Calls Try.prog 6 #[] w fun e w' => e = .returned (.bool true) ∧ Below w.heap.size w w' := by
  obtain ⟨BL, hBL⟩ : ∃ BL, BL = bytes20 7 d20.data.toList := ⟨_, rfl⟩
  obtain ⟨S, hS⟩ : ∃ S : ByteArray, S = ⟨BL.toArray⟩ := ⟨_, rfl⟩
  have hlen : BL.length = 15 := by rw [hBL, bytes_len]; rfl
  have hSz : S.size = 15 := by rw [hS, size_mk, hlen]
  have HBO : Hid (∀ W, Calls Try.prog 7 #[.agg #[.int .i64 7, .string ⟨#[97, 61, 49]⟩]] W fun e w' => e = .returned (.tuple #[.string S, .int .i64 0]) ∧ Below W.heap.size W w') := fun W => by
    have h := M.body ⟨7, d20⟩ W ⟨by decide, by decide⟩ (by decide)
    rw [body_seven, ← hBL, ← hS] at h
    exact h
  obtain ⟨X1, hX1⟩ : ∃ X : ByteArray, X = ⟨(mark20 ++ BL).toArray⟩ := ⟨_, rfl⟩
  obtain ⟨X2, hX2⟩ : ∃ X : ByteArray, X = ⟨(mark20 ++ BL ++ [255, 255]).toArray⟩ := ⟨_, rfl⟩
  obtain ⟨X3, hX3⟩ : ∃ X : ByteArray, X = ⟨([80, 69, 78, 88] ++ BL).toArray⟩ := ⟨_, rfl⟩
  have a1 : ∀ W, (Op.stringOp .add ⟨#[80, 69, 78, 86]⟩ S).run Try.prog W = .ok (.string X1) W := fun W => by
    have := add20 (W := W) (a := mark20) (b := BL) (by show 4 + BL.length ≤ _; omega)
    rw [← hX1, ← hS] at this
    exact this
  have a2 : ∀ W, (Op.stringOp .add X1 ⟨#[255, 255]⟩).run Try.prog W = .ok (.string X2) W := fun W => by
    have := add20 (W := W) (a := mark20 ++ BL) (b := [255, 255]) (by rw [List.length_append]; show 4 + BL.length + 2 ≤ _; omega)
    rw [← hX2, ← hX1] at this
    exact this
  have a3 : ∀ W, (Op.stringOp .add ⟨#[80, 69, 78, 88]⟩ S).run Try.prog W = .ok (.string X3) W := fun W => by
    have := add20 (W := W) (a := [80, 69, 78, 88]) (b := BL) (by show 4 + BL.length ≤ _; omega)
    rw [← hX3, ← hS] at this
    exact this
  have hr2 : read20 X2.data.toList = (⟨7, d20⟩, 0) := by
    have := read_back (n := 7) (d := d20) (by decide) (by decide) [255, 255]
    rw [← hBL, ← List.append_assoc] at this
    rw [hX2]
    exact this
  have hr3 : read20 X3.data.toList = (rc0, 6) := by
    have e : X3.data.toList = [80, 69, 78, 88] ++ (big 7 ++ (big ((d20.data.toList.length : Nat) : Int) ++ (big (sum20 7 d20.data.toList : Int) ++ (d20.data.toList ++ [])))) := by
      rw [hX3, hBL]
      unfold bytes20 head20
      simp only [List.append_assoc, List.append_nil]
    rw [e, read_laid rfl (big_length _) (big_length _) (big_length _) (by decide) (by decide), if_pos (by decide)]
  have HR2 : Hid (∀ W, Calls Try.prog 9 #[.string X2] W fun e w' => e = .returned (.tuple #[.agg #[.int .i64 7, .string ⟨#[97, 61, 49]⟩], .int .i64 0]) ∧ Below W.heap.size W w') := fun W => by
    have h := M.read X2 W (by rw [hX2, size_mk, List.length_append, List.length_append]; show 4 + BL.length + 2 ≤ _; omega)
    rw [hr2] at h
    exact h
  have HR3 : Hid (∀ W, Calls Try.prog 9 #[.string X3] W fun e w' => e = .returned (.tuple #[.agg #[.int .i64 0, .string ⟨#[]⟩], .int .i64 6]) ∧ Below W.heap.size W w') := fun W => by
    have h := M.read X3 W (by rw [hX3, size_app20]; show 4 + BL.length ≤ _; omega)
    rw [hr3] at h
    exact h
  have HNE : Hid (∀ W, Calls Try.prog 11 #[.int .i64 0, .int .i64 4294967295] W fun e w' => e = .returned (.bool true) ∧ Below W.heap.size W w') := fun W => M.newer 0 4294967295 W ⟨by decide, by decide⟩ ⟨by decide, by decide⟩
  have HNX : Hid (∀ W, Calls Try.prog 13 #[.int .i64 4294967295] W fun e w' => e = .returned (.int .i64 0) ∧ Below W.heap.size W w') := fun W => M.next 4294967295 W ⟨by decide, by decide⟩
  clear M hBL hS hX1 hX2 hX3 hr2 hr3 hlen
  go_enter Try.func6, Try.ntmps6
  go_wp2_with fail
  refine (HBO.out _).mono ?_
  rintro e w1 ⟨rfl, hb⟩
  have HB := Lib.hid hb
  clear hb HBO
  go_wp2_with fail
  refine (HR2.out _).mono ?_
  rintro e w2 ⟨rfl, hb⟩
  have hb2 : Below w2.heap.size w2 (w2.alloc (.cells #[.int .i64 7, .string ⟨#[97, 61, 49]⟩] 23)) := (Below.refl _ _).alloc (Nat.le_refl _) _
  have HA3 := Lib.hid (Arr.new w2 23 #[.int .i64 7, .string ⟨#[97, 61, 49]⟩])
  have hbb := hb.trans (hb2.mono hb.size)
  have HB := Lib.hid (HB.out.trans (hbb.mono HB.out.size))
  clear hb HR2 hb2 hbb
  go_upto_region 3 with fail
  generalize w2.alloc (.cells #[.int .i64 7, .string ⟨#[97, 61, 49]⟩] 23) = W3 at *
  generalize w2.heap.size = g3 at *
  go_wp2_with fail
  refine (HR3.out _).mono ?_
  rintro e w4 ⟨rfl, hb⟩
  have hb2 : Below w4.heap.size w4 (w4.alloc (.cells #[.int .i64 0, .string ⟨#[]⟩] 23)) := (Below.refl _ _).alloc (Nat.le_refl _) _
  have hbb := hb.trans (hb2.mono hb.size)
  have HA3 := Lib.hid (HA3.out.below hbb HA3.out.lt)
  have HB := Lib.hid (HB.out.trans (hbb.mono HB.out.size))
  clear hb HR3 hb2 hbb
  go_upto_region 4 with fail
  generalize w4.alloc (.cells #[.int .i64 0, .string ⟨#[]⟩] 23) = W5 at *
  have c30 : W5.cell? ⟨g3, 0, none⟩ = some (.int .i64 7) := HA3.out.cell 0
  have c31 : W5.cell? ⟨g3, 1, none⟩ = some (.string ⟨#[97, 61, 49]⟩) := HA3.out.cell 1
  go_wp2_with fail
  refine (HNE.out _).mono ?_
  rintro e w6 ⟨rfl, hb⟩
  have HB := Lib.hid (HB.out.trans (hb.mono HB.out.size))
  clear hb c30 c31 HNE
  go_wp2_with fail
  refine (HNX.out _).mono ?_
  rintro e w7 ⟨rfl, hb⟩
  have HB := Lib.hid (HB.out.trans (hb.mono HB.out.size))
  clear hb HNX
  go_wp2
  go_ret
  exact ⟨rfl, HB.out⟩
end Go.Proofs.Ytbkfkbacejhpeaa
