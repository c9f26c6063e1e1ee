/- What the document's Load, blown and put do. Conditions: Load: at most 24576 bytes; blown: fewer than 2^62 operations; put: the bytes are there. -/
import Derived.Test.YtidnbpehhpakcaaNorK
import Derived.RegionTactic
import Derived.BigRegion
namespace Go.Proofs.Ytidnbpehhpakcaa
open Go.RowKit

/-- How long a slice is. -/
def sln : Value → Nat
  | .slice _ n _ => n
  | _ => 0

set_option maxHeartbeats 1600000 in
set_option maxRecDepth 100000 in
theorem refload_any (s : ByteArray) (w : World) (hs : s.size ≤ 24576) : Calls Try.prog 20 #[.string s] w fun e w' => ∃ g, e = .returned (.pointer (some ⟨g, 0, none⟩)) ∧ w.heap.size ≤ g ∧ RR w' g (ldS s) ∧ Below w.heap.size w w' := by
  have hcv := run_bytes_of_string (P := Try.prog) w 9 82 5 s Try.underlying9 Try.underlying82 Try.underlying5
  have hge := grownCap_ge w s.size 0 5
  generalize grownCap w s.size 0 5 = cap at hcv hge
  have hrow := brow_conv w s cap 5 hge
  have hbel := (Below.refl w.heap.size w).alloc (Nat.le_refl _) (.cells (bytesRow s cap) 5 ((bytesRow s cap).size, (bytesRow s cap).size + 1))
  have HR := Lib.hid hrow
  have HB0 := Lib.hid hbel
  generalize (.cells (bytesRow s cap) 5 ((bytesRow s cap).size, (bytesRow s cap).size + 1) : Obj) = O at *
  clear hrow hbel hge
  have hsl : Hid (s.data.toList.length = s.size) := rfl
  go_enter Try.func20, Try.ntmps20
  go_wp2
  go_loopw [3] (fun v wr => ∃ j : Nat, j ≤ 24576 - s.size ∧ BRow w.heap.size wr v (s.data.toList ++ List.replicate j 255) ∧ Below w.heap.size w wr) (fun v _ => 24576 - sln v)
  case atStart => exact ⟨0, Nat.zero_le _, by rw [List.replicate_zero, List.append_nil]; exact HR.out.drew, HB0.out.drew⟩
  case round =>
    clear HR HB0 hcv
    obtain ⟨j, hj, hR, hb⟩ := hrel
    obtain ⟨q, hq⟩ : ∃ q, s.size + j = q := ⟨_, rfl⟩
    have hql : (s.data.toList ++ List.replicate j (255 : UInt8)).length = q := by rw [List.length_append, List.length_replicate, hsl.out, hq]
    have hR0 := hR
    obtain ⟨gb, cp, hv, hg1, hg2, hle, hcells, hroom⟩ := hR
    rw [hql] at hv hle
    have HR := Lib.hid hR0
    have HB := Lib.hid hb
    have hz := hb.size
    subst hv
    clear hR0 hb hcells hroom
    by_cases hlt : q < 24576
    · have hqI : decide ((q : Int) < 24576) = true := decide_eq_true (by omega)
      go_wp2_with (at_builtin; go_must (refine brow_append rfl (.tmp 9) (.tmp 10) rfl w.heap.size _ (s.data.toList ++ List.replicate j 255) 255 rfl HR.out wr.heap.size rfl rfl (by rw [hql]; omega) hz ?_))
      intro v1 w2 hr2 hb2
      rw [← List.replicate_succ'] at hr2
      have hb3 := HB.out.trans hb2
      have hv1 : Hid (sln v1 = q + 1) := by
        obtain ⟨g', cp', rfl, -⟩ := hr2
        show List.length _ = _
        rw [List.length_append, List.length_replicate, hsl.out]; omega
      go_wp2
      go_roundw
      case rel => exact ⟨j + 1, by omega, hr2, hb3⟩
      case measure =>
        rw [hv1.out]
        show 24576 - (q + 1) < 24576 - q
        omega
    · obtain rfl : q = 24576 := by omega
      have hj2 : j = 24576 - s.size := by omega
      have hcs := brow_string HR.out
      rw [hj2] at hcs
      have HRR : Hid (∀ w', Arr w' wr.heap.size 65 #[.string ⟨(s.data.toList ++ List.replicate (24576 - s.size) 255).toArray⟩, .bool true, .int .i64 (-1), .string ⟨#[]⟩, .int .i64 0] → RR w' wr.heap.size (ldS s)) :=
        fun w' hw' => ⟨ldS_ok s hs, _, _, hw', fun _ => rfl⟩
      have HAN := Lib.hid (fun cs => Arr.new wr 65 cs)
      have HB2 := Lib.hid (fun o => HB.out.alloc hz o)
      generalize (s.data.toList ++ List.replicate (24576 - s.size) (255 : UInt8)).toArray = bs at *
      have hqI : decide ((24576 : Int) < 24576) = false := rfl
      clear hql hj2 hj hq HR
      go_wp2
      go_ret
      exact ⟨_, rfl, hz, HRR.out _ (HAN.out _), HB2.out _⟩
set_option maxHeartbeats 800000 in
set_option maxRecDepth 100000 in
theorem blown_none (g : Nat) (B : ByteArray) (on : Bool) (t : ByteArray) (ops : Nat) (w : World) (hA : Arr w g 65 (refC B on (-1) t ops)) (ho : ops < 4611686018427387904) :
    Calls Try.prog 61 #[.pointer (some ⟨g, 0, none⟩)] w fun e w' => e = .returned (.bool false) ∧ Arr w' g 65 (refC B on (-1) t ((ops : Int) + 1)) ∧ w.grownBy w' (some g) := by
  have h2 := ref_fuse hA
  have h4 := ref_ops hA
  have f4 := hA.frozen 4
  have HG : Hid (∀ w', w' = w.setCell ⟨g, 4, none⟩ (.int .i64 ((ops : Int) + 1)) → Arr w' g 65 (refC B on (-1) t ((ops : Int) + 1)) ∧ w.grownBy w' (some g)) := by
    rintro w' rfl
    exact ⟨ref_setOps hA _, grown_cell _ _ _ _⟩
  clear hA
  go_enter Try.func61, Try.ntmps61
  go_wp2
  go_ret
  exact ⟨rfl, HG.out _ rfl⟩
set_option maxHeartbeats 800000 in
set_option maxRecDepth 100000 in
theorem blown_zero (g : Nat) (B : ByteArray) (on : Bool) (t : ByteArray) (ops : Nat) (w : World) (hA : Arr w g 65 (refC B on 0 t ops)) (ho : ops < 4611686018427387904) :
    Calls Try.prog 61 #[.pointer (some ⟨g, 0, none⟩)] w fun e w' => e = .returned (.bool true) ∧ Arr w' g 65 (refC B false (-1) t ((ops : Int) + 1)) ∧ w.grownBy w' (some g) := by
  have h1 := ref_on hA
  have h2 := ref_fuse hA
  have h4 := ref_ops hA
  have f1 := hA.frozen 1
  have f2 := hA.frozen 2
  have f4 := hA.frozen 4
  have HG : Hid (∀ w', w' = ((w.setCell ⟨g, 4, none⟩ (.int .i64 ((ops : Int) + 1))).setCell ⟨g, 2, none⟩ (.int .i64 (-1))).setCell ⟨g, 1, none⟩ (.bool false) → Arr w' g 65 (refC B false (-1) t ((ops : Int) + 1)) ∧ w.grownBy w' (some g)) := by
    rintro w' rfl
    exact ⟨ref_setOn (ref_setFuse (ref_setOps hA _) _) _, grown_put (grown_put (grown_cell _ _ _ _) _ _) _ _⟩
  clear hA
  go_enter Try.func61, Try.ntmps61
  go_wp2
  go_ret
  exact ⟨rfl, HG.out _ rfl⟩
set_option maxHeartbeats 800000 in
set_option maxRecDepth 100000 in
theorem blown_more (g : Nat) (B : ByteArray) (on : Bool) (k : Nat) (t : ByteArray) (ops : Nat) (w : World) (hA : Arr w g 65 (refC B on (k : Int) t ops)) (ho : ops < 4611686018427387904) (hk0 : 0 < k) (hk : k < 9223372036854775808) :
    Calls Try.prog 61 #[.pointer (some ⟨g, 0, none⟩)] w fun e w' => e = .returned (.bool false) ∧ Arr w' g 65 (refC B on ((k : Int) - 1) t ((ops : Int) + 1)) ∧ w.grownBy w' (some g) := by
  have h2 := ref_fuse hA
  have h4 := ref_ops hA
  have f2 := hA.frozen 2
  have f4 := hA.frozen 4
  have HG : Hid (∀ w', w' = (w.setCell ⟨g, 4, none⟩ (.int .i64 ((ops : Int) + 1))).setCell ⟨g, 2, none⟩ (.int .i64 ((k : Int) - 1)) → Arr w' g 65 (refC B on ((k : Int) - 1) t ((ops : Int) + 1)) ∧ w.grownBy w' (some g)) := by
    rintro w' rfl
    exact ⟨ref_setFuse (ref_setOps hA _) _, grown_put (grown_cell _ _ _ _) _ _⟩
  have d1 : decide ((k : Int) < 0) = false := decide_eq_false (by omega)
  have d2 : decide ((0 : Int) ≤ (k : Int) - 1) = true := decide_eq_true (by omega)
  clear hA
  go_enter Try.func61, Try.ntmps61
  go_wp2
  go_ret
  exact ⟨rfl, HG.out _ rfl⟩
end Go.Proofs.Ytidnbpehhpakcaa
