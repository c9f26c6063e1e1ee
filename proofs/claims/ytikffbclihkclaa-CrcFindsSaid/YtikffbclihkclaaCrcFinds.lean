/- CrcFinds returns true for every string, every place and every 32-bit number. -/
import Derived.Test.YtikffbclihkclaaCrcC
import Derived.Laws.IdiomStrings
import Derived.RegionTactic
import Derived.BigRegion
import Derived.Deep.Draws
namespace Go.Proofs.Ytikffbclihkclaa
open Go.RowKit

/-- Block B reads as the bytes l, none of them frozen. -/
def Row (w : World) (B : Nat) (l : List UInt8) : Prop :=
  ∀ j, j < l.length → w.cell? ⟨B, j, none⟩ = some (.int .u8 ((l.getD j 0).toNat : Int)) ∧ w.frozen? ⟨B, j, none⟩ = false
theorem row_set {w : World} {B : Nat} {l : List UInt8} (h : Row w B l) (k : Nat) (hk : k < l.length) (x : UInt8) : Row (w.setCell ⟨B, k, none⟩ (.int .u8 (x.toNat : Int))) B (l.set k x) := by
  intro j hj
  rw [List.length_set] at hj
  obtain ⟨h1, h2⟩ := h j hj
  refine ⟨?_, (World.frozen?_setCell w _ _ _).trans h2⟩
  by_cases e : k = j
  · subst e
    rw [World.cell?_setCell_same w _ _ (h k hk).1]
    simp [List.getD, hk]
  · rw [World.cell?_setCell_other w _ _ _ (fun he => e (congrArg Addr.off he)), h1]
    simp [List.getD, List.getElem?_set_ne e]
theorem row_drew {w : World} {B : Nat} {l : List UInt8} (h : Row w B l) : Row w.drew B l := h
theorem row_new (w : World) (s : ByteArray) (cap : Nat) (t : TypeId) : Row (w.alloc (.cells (bytesRow s cap) t ((bytesRow s cap).size, (bytesRow s cap).size + 1))) w.heap.size s.data.toList := by
  intro j hj
  have hj' : j < s.data.size := by simpa using hj
  refine ⟨?_, ?_⟩
  · rw [World.cell?_alloc_mark, bytesRow_at s cap j hj']
    simp [List.getD, Array.getElem?_eq_getElem hj']
  · rw [World.frozen?_alloc_mark]
    have : ¬ (bytesRow s cap).size ≤ j := by
      unfold bytesRow
      rw [Array.size_append, Array.size_map]
      omega
    simp [this]
/-- The four bytes behind so many rounds. -/
def md (a b c d : UInt8) (X : Nat) : Nat → List UInt8
  | 0 => [a, b, c, d]
  | 1 => [a ^^^ b8 X, b, c, d]
  | 2 => [a ^^^ b8 X, b ^^^ b8 (X / 256), c, d]
  | 3 => [a ^^^ b8 X, b ^^^ b8 (X / 256), c ^^^ b8 (X / 65536), d]
  | _ => [a ^^^ b8 X, b ^^^ b8 (X / 256), c ^^^ b8 (X / 65536), d ^^^ b8 (X / 16777216)]
theorem parts4 (l : List UInt8) (k : Nat) (h : k + 4 ≤ l.length) : ∃ p a b c d q, l = p ++ [a, b, c, d] ++ q ∧ p.length = k := by
  have e : l = l.take k ++ l.drop k := (List.take_append_drop k l).symm
  have hl : (l.drop k).length = l.length - k := List.length_drop
  match hd : l.drop k with
  | [] => rw [hd] at hl; simp at hl; omega
  | [_] => rw [hd] at hl; simp at hl; omega
  | [_, _] => rw [hd] at hl; simp at hl; omega
  | [_, _, _] => rw [hd] at hl; simp at hl; omega
  | a :: b :: c :: d :: q => exact ⟨l.take k, a, b, c, d, q, by rw [hd] at e; simpa using e, by rw [List.length_take]; omega⟩
theorem xorb (x : UInt8) (Y : Nat) : bits .xor .u8 (x.toNat : Int) (((Y % 256 : Nat)) : Int) = ((x ^^^ b8 Y).toNat : Int) := by
  rw [u8_xor_nat _ _ (by have := x.toNat_lt; omega) (by omega), UInt8.toNat_xor, b8_toNat]

theorem xorbI (x : UInt8) (Y : Nat) (v : Int) (hv : v = ((Y % 256 : Nat) : Int)) : bits .xor .u8 (x.toNat : Int) v = ((x ^^^ b8 Y).toNat : Int) := by
  rw [hv]; exact xorb x Y
theorem row_at {w : World} {B : Nat} {p m q : List UInt8} {k : Nat} (h : Row w B (p ++ m ++ q)) (hp : p.length = k) (i : Nat) (hi : i < m.length) (x : UInt8) (hx : m.getD i 0 = x) :
    w.cell? ⟨B, k + i, none⟩ = some (.int .u8 (x.toNat : Int)) ∧ w.frozen? ⟨B, k + i, none⟩ = false := by
  have := h (k + i) (by simp; omega)
  have e : (p ++ m ++ q).getD (k + i) 0 = m.getD i 0 := by
    subst hp
    rw [List.append_assoc, List.getD, List.getElem?_append_right (by omega), Nat.add_sub_cancel_left, List.getElem?_append_left hi]
    rfl
  rw [e, hx] at this
  exact this
theorem row_next {w : World} {B : Nat} {p m q : List UInt8} {k : Nat} (h : Row w B (p ++ m ++ q)) (hp : p.length = k) (i : Nat) (hi : i < m.length) (y : UInt8) (v : Int) (hv : v = (y.toNat : Int)) :
    Row (w.setCell ⟨B, k + i, none⟩ (.int .u8 v)).drew B (p ++ m.set i y ++ q) := by
  subst hv
  have := row_set h (k + i) (by simp; omega) y
  have e : (p ++ m ++ q).set (k + i) y = p ++ m.set i y ++ q := by
    subst hp
    rw [List.append_assoc, List.set_append_right _ _ (by omega), List.append_assoc]
    congr 1
    rw [Nat.add_sub_cancel_left, List.set_append_left _ _ hi]
  rw [e] at this
  exact this
theorem size_next {w : World} {B : Nat} (hz : B < w.heap.size) (a : Addr) (v : Value) : B < (w.setCell a v).drew.heap.size := by
  have := ((Below.refl 0 w).setCell (p := a) (Nat.zero_le _) v).size
  show B < (w.setCell a v).heap.size
  omega
theorem below_next {B : Nat} {w w1 : World} (hb : Below B w w1) (i : Nat) (v : Value) : Below B w (w1.setCell ⟨B, i, none⟩ v).drew := (hb.setCell (p := ⟨B, i, none⟩) (Nat.le_refl _) v).drew
theorem row_back {w : World} {B : Nat} {l : List UInt8} (cap : Nat) (h : Row w B l) :
    (convert 31 9 (.slice (some ⟨B, 0, none⟩) l.length cap)).run Try.prog w = .ok (.string ⟨l.toArray⟩) w :=
  run_convert_bytes_back w 31 9 5 ⟨B, 0, none⟩ cap l Try.underlying31 Try.underlying5 Try.underlying9 (fun j hj => by
    have e : (⟨B, 0, none⟩ : Addr).add j = ⟨B, j, none⟩ := by unfold Addr.add; split <;> simp_all
    rw [e, (h j hj).1]
    have e2 : l.getD j 0 = l[j] := by rw [List.getD_eq_getElem?_getD, List.getElem?_eq_getElem hj]; rfl
    rw [e2])
theorem md_len (a b c d : UInt8) (X n : Nat) : (md a b c d X n).length = 4 := by
  unfold md; split <;> rfl

set_option maxHeartbeats 1600000 in
set_option maxRecDepth 100000 in
theorem crcFinds_main (s : ByteArray) (t : Int) (X : Nat) (w : World) (h4 : 4 ≤ s.size) (hs : s.size ≤ 1024) (ht0 : 0 ≤ t) (ht1 : t ≤ 65535) (hX : X < 4294967296) (hX0 : 0 < X) :
    Calls Try.prog 5 #[.string s, .int .u16 t, .int .u32 (X : Int)] w fun e w' => e = .returned (.bool true) ∧ Below w.heap.size w w' := by
  obtain ⟨k, hk⟩ : ∃ k : Nat, t % ((s.size : Int) - 3) = (k : Int) := ⟨(t % ((s.size : Int) - 3)).toNat, by have := Int.emod_nonneg t (show ((s.size : Int) - 3) ≠ 0 by omega); omega⟩
  have hk4 : k + 4 ≤ s.size := by have := Int.emod_lt_of_pos t (show 0 < ((s.size : Int) - 3) by omega); omega
  have hsl : s.data.toList.length = s.size := rfl
  obtain ⟨p, a, b, c, d, q, hl, hp⟩ := parts4 s.data.toList k (by omega)
  have hpq : p.length + 4 + q.length = s.size := by have := congrArg List.length hl; simp at this; rw [← hsl]; simp; omega
  have hcv := run_bytes_of_string (P := Try.prog) w 9 31 5 s Try.underlying9 Try.underlying31 Try.underlying5
  generalize grownCap w s.size 0 5 = cap at hcv
  have hrow := row_new w s cap 5
  rw [hl] at hrow
  have hbel := (Below.refl w.heap.size w).alloc (Nat.le_refl _) (.cells (bytesRow s cap) 5 ((bytesRow s cap).size, (bytesRow s cap).size + 1))
  have hsz : w.heap.size < (w.alloc (.cells (bytesRow s cap) 5 ((bytesRow s cap).size, (bytesRow s cap).size + 1))).heap.size := by simp
  generalize (.cells (bytesRow s cap) 5 ((bytesRow s cap).size, (bytesRow s cap).size + 1) : Obj) = O at *
  have HL := Lib.hid hl
  have HP := Lib.hid hp
  have HPQ := Lib.hid hpq
  have HR := Lib.hid hrow
  have hx0 : ((X : Int) == 0) = false := by simp; omega
  have hd1 : decide ((1024 : Int) < s.size) = false := decide_eq_false (by omega)
  have hd2 : decide ((s.size : Int) < 4) = false := decide_eq_false (by omega)
  clear hl hp hpq hrow hsl
  go_enter Try.func5, Try.ntmps5
  go_wp2
  rw [hk]
  have hbel' := hbel.drew
  have hsz' : w.heap.size < (w.alloc O).drew.heap.size := hsz
  have HR' : Hid (Row (w.alloc O).drew w.heap.size (p ++ md a b c d X 0 ++ q)) := HR.out
  generalize (w.alloc O).drew = w1 at *
  generalize hB : w.heap.size = B at *
  have HB := Lib.hid hB
  clear hB hcv hbel hsz HR hk hx0 hd1 hd2 ht0 ht1
  go_loopw [9] (fun i wr => ∃ n : Nat, n ≤ 4 ∧ i = .int .i64 n ∧ Row wr B (p ++ md a b c d X n ++ q) ∧ Below B w wr ∧ B < wr.heap.size) (fun i _ => 4 - (intOf i).toNat)
  case atStart => exact ⟨0, Nat.zero_le _, rfl, HR'.out, hbel', hsz'⟩
  case round =>
    obtain ⟨n, hn, hi, hr, hb, hz⟩ := hrel
    have HN := Lib.hid hr
    clear hr
    rcases (show n = 0 ∨ n = 1 ∨ n = 2 ∨ n = 3 ∨ n = 4 by omega) with rfl | rfl | rfl | rfl | rfl
    · obtain rfl : _ = Value.int .i64 0 := hi
      obtain ⟨hc1, hc2⟩ := row_at HN.out HP.out 0 (by rw [md_len]; omega) a rfl
      rw [Nat.add_zero] at hc1 hc2
      have k1 : (k : Int) < s.size := by omega
      go_wp2
      go_region
      go_wp2
      go_roundw
      case rel => exact ⟨1, by omega, rfl, row_next HN.out HP.out 0 (by rw [md_len]; omega) (a ^^^ b8 X) _ (xorbI a X _ (by omega)), below_next hb _ _, size_next hz _ _⟩
      case measure => simp [intOf]
    · obtain rfl : _ = Value.int .i64 1 := hi
      obtain ⟨hc1, hc2⟩ := row_at HN.out HP.out 1 (by rw [md_len]; omega) b rfl
      have k1 : (k : Int) + 1 < s.size := by omega
      go_wp2
      go_region
      go_wp2
      go_roundw
      case rel => exact ⟨2, by omega, rfl, row_next HN.out HP.out 1 (by rw [md_len]; omega) (b ^^^ b8 (X / 256)) _ (xorbI b (X / 256) _ (by omega)), below_next hb _ _, size_next hz _ _⟩
      case measure => simp [intOf]
    · obtain rfl : _ = Value.int .i64 2 := hi
      obtain ⟨hc1, hc2⟩ := row_at HN.out HP.out 2 (by rw [md_len]; omega) c rfl
      have k1 : (k : Int) + 2 < s.size := by omega
      go_wp2
      go_region
      go_wp2
      go_roundw
      case rel => exact ⟨3, by omega, rfl, row_next HN.out HP.out 2 (by rw [md_len]; omega) (c ^^^ b8 (X / 65536)) _ (xorbI c (X / 65536) _ (by omega)), below_next hb _ _, size_next hz _ _⟩
      case measure => simp [intOf]
    · obtain rfl : _ = Value.int .i64 3 := hi
      obtain ⟨hc1, hc2⟩ := row_at HN.out HP.out 3 (by rw [md_len]; omega) d rfl
      have k1 : (k : Int) + 3 < s.size := by omega
      go_wp2
      go_region
      go_wp2
      go_roundw
      case rel => exact ⟨4, by omega, rfl, row_next HN.out HP.out 3 (by rw [md_len]; omega) (d ^^^ b8 (X / 16777216)) _ (xorbI d (X / 16777216) _ (by omega)), below_next hb _ _, size_next hz _ _⟩
      case measure => simp [intOf]
    · obtain rfl : _ = Value.int .i64 4 := hi
      have hlen : (p ++ md a b c d X 4 ++ q).length = s.size := by rw [List.length_append, List.length_append, md_len]; exact HPQ.out
      have hback := row_back cap HN.out
      rw [hlen] at hback
      have hne : more 0 (p ++ md a b c d X 4 ++ q) ≠ more 0 s.data.toList := by
        rw [HL.out]
        exact more_burst 0 p q a b c d hX (by omega)
      have hrs : (ByteArray.mk (p ++ md a b c d X 4 ++ q).toArray).size ≤ maxLen := by
        show (p ++ md a b c d X 4 ++ q).toArray.size ≤ maxLen
        rw [List.size_toArray, hlen]; unfold maxLen; omega
      have hss : s.size ≤ maxLen := by unfold maxLen; omega
      have S1 := fun w => sum1 (ByteArray.mk (p ++ md a b c d X 4 ++ q).toArray) w hrs
      have S2 := fun w => sum1 s w hss
      rw [show (ByteArray.mk (p ++ md a b c d X 4 ++ q).toArray).data.toList = p ++ md a b c d X 4 ++ q from rfl] at S1
      generalize more 0 (p ++ md a b c d X 4 ++ q) = R1 at *
      generalize more 0 s.data.toList = R2 at *
      generalize (ByteArray.mk (p ++ md a b c d X 4 ++ q).toArray) = r at *
      have HS1 := Lib.hid S1
      have HS2 := Lib.hid S2
      have HNE := Lib.hid hne
      clear S1 S2 hne hlen hrs hss
      go_wp2_with fail
      refine (HS1.out wr).mono ?_
      rintro e w2 ⟨rfl, rfl⟩
      have c1 := hb.alloc (Nat.le_of_lt hz) (.cells #[.string r] 9)
      have z1 : B ≤ (wr.alloc (.cells #[.string r] 9)).heap.size := by simp; omega
      generalize wr.alloc (.cells #[.string r] 9) = w2 at *
      clear hback
      go_wp2_with fail
      refine (HS2.out w2).mono ?_
      rintro e w3 ⟨rfl, rfl⟩
      have c2 := c1.alloc z1 (.cells #[.string s] 9)
      have z2 : B ≤ (w2.alloc (.cells #[.string s] 9)).heap.size := by simp; omega
      generalize w2.alloc (.cells #[.string s] 9) = w3 at *
      have hne : (((R1 : Nat) : Int) != ((R2 : Nat) : Int)) = true := by have := HNE.out; simp; omega
      go_wp2_with fail
      refine (awake02 w3).mono ?_
      rintro e w4 ⟨rfl, hb4⟩
      have c3 := c2.trans (hb4.mono z2)
      clear hne
      go_wp2
      go_ret
      exact ⟨rfl, by rw [HB.out]; exact c3⟩

set_option maxHeartbeats 800000 in
theorem crcFinds_any (s : ByteArray) (t : Int) (X : Int) (w : World) (hs : s.size ≤ maxLen) (ht0 : 0 ≤ t) (ht1 : t ≤ 65535) (hX0 : 0 ≤ X) (hX : X ≤ 4294967295) :
    Calls Try.prog 5 #[.string s, .int .u16 t, .int .u32 X] w fun e w' => e = .returned (.bool true) ∧ Below w.heap.size w w' := by
  unfold maxLen at hs
  obtain ⟨X, rfl⟩ := Int.eq_ofNat_of_zero_le hX0
  by_cases h1 : s.size ≤ 1024
  · by_cases h2 : 4 ≤ s.size
    · by_cases h3 : 0 < X
      · exact crcFinds_main s t X w h2 h1 ht0 ht1 (by omega) h3
      · obtain rfl : X = 0 := by omega
        go_enter Try.func5, Try.ntmps5
        go_wp2_with fail
        refine (awake02 w).mono ?_
        rintro e w8 ⟨rfl, hb8⟩
        go_wp2
        go_ret
        exact ⟨rfl, hb8⟩
    · go_enter Try.func5, Try.ntmps5
      go_wp2_with fail
      refine (awake02 w).mono ?_
      rintro e w8 ⟨rfl, hb8⟩
      go_wp2
      go_ret
      exact ⟨rfl, hb8⟩
  · go_enter Try.func5, Try.ntmps5
    go_wp2_with fail
    refine (awake02 w).mono ?_
    rintro e w8 ⟨rfl, hb8⟩
    go_wp2
    go_ret
    exact ⟨rfl, hb8⟩
end Go.Proofs.Ytikffbclihkclaa
