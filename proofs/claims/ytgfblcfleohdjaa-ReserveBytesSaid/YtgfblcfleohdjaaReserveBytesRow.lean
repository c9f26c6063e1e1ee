/- The statement of ReserveBytes: for every slice of spans and every number the law returns true and leaves its arguments as they were. No condition. -/
import Derived.Test.YtgfblcfleohdjaaReserveBytes
import Derived.Test.YtgfblcfleohdjaaRsZ
import Derived.Test.YtgfblcfleohdjaaRows
import Derived.ProofKit
import Derived.OpenShut
import Derived.ShutString
import Derived.ChangeOld
import Derived.Below
import Derived.LaidMore
import Derived.Stop.Joined
import Derived.Stop.LaidErr
import Derived.Lib.LaidTab
import Derived.SevenTiedAt
import Derived.Deep.Slices
namespace Go.Proofs.Ytgfblcfleohdjaa.reserveBytes
open Go.ChangeShapes Go.WideShapes Go.ChangeAt Go.RowKit
open Go.ChangeMaps (open_string shut_string)
set_option linter.unusedVariables false

theorem own : ownKnob Try.prog.godebug = none := by kernel_rfl
theorem laidOut : laidOutB Try.prog = true := by kernel_rfl
set_option maxRecDepth 100000 in
/-- A slice of structs that came in reads as a list. -/
theorem rdSp_of_trod {H : Type} {enc : TypeId × Value → H} {W : World} {a0 : Option Addr} {len0 cap0 : Nat} {d0 : DataW H} {p0 : List MemPlace}
    (h0 : DataW.Trod enc Try.prog W 0 (fun _ => true) true 22 (.slice a0 len0 cap0) d0 p0) : ∃ l : List SP, l.length = len0 ∧ l.length ≤ maxLen ∧ RdSp W a0 l ∧
      (∀ k, k < l.length → (l.getD k sp0).p < 9223372036854775808 ∧ -9223372036854775808 ≤ (l.getD k sp0).p ∧ (l.getD k sp0).n < 9223372036854775808 ∧ -9223372036854775808 ≤ (l.getD k sp0).n) ∧ len0 ≤ cap0 ∧ cap0 ≤ maxLen := by
  obtain ⟨fuel, hf⟩ := h0
  rcases Deep.open_slice Try.underlying22 hf with ⟨hcs, _⟩ | ⟨a, len, cap, m, n, D, Pl, hcs, hb, hl, hm, hmm, _, hx⟩
  · simp [Value.cells] at hcs
    obtain ⟨rfl, rfl, rfl⟩ := hcs
    exact ⟨[], rfl, Nat.zero_le _, .inl rfl, (fun _ h => by cases h), Nat.le_refl _, Nat.zero_le _⟩
  · simp [Value.cells] at hcs
    obtain ⟨rfl, rfl, rfl⟩ := hcs
    have hmc : m = cap0 := by simpa using hmm
    have cN : Try.prog.cellsOf 24 = 2 := by kernel_rfl
    have ci : Try.prog.cellsOf 3 = 1 := by kernel_rfl
    have each : ∀ i, i < len0 → ∃ x : SP, (W.cell? (a.add (i * 2)) = some (.int .i64 x.p) ∧ W.cell? (a.add (i * 2 + 1)) = some (.int .i64 x.n)) ∧
        x.p < 9223372036854775808 ∧ -9223372036854775808 ≤ x.p ∧ x.n < 9223372036854775808 ∧ -9223372036854775808 ≤ x.n := by
      intro i hi
      obtain ⟨cs', h1, h2⟩ := hx i (by omega)
      rw [cN] at h1
      obtain ⟨_, hlen, hcell⟩ := World.cells?_some h1
      obtain ⟨xs, k, _, _, _, hxl, hfd⟩ := DataW.trod_struct Try.underlying24 h2
      match cs', hlen with
      | [v0, v1], _ =>
        have g0 := hfd 0 _ rfl
        have g1 := hfd 1 _ rfl
        simp [ci] at g0 g1
        have hxln : xs.length = 2 := by simpa using hxl
        rw [List.getElem?_eq_getElem (by omega)] at g0 g1
        obtain ⟨i0, e0, _, b0⟩ := DataW.trod_int Try.underlying3 g0
        obtain ⟨i1, e1, _, b1⟩ := DataW.trod_int Try.underlying3 g1
        injection e0 with e0
        injection e1 with e1
        subst e0 e1
        have q0 := hcell 0 (by omega)
        have q1 := hcell 1 (by omega)
        rw [Deep.add_add] at q0 q1
        have w0 := bounds_i64 b0
        have w1 := bounds_i64 b1
        exact ⟨⟨i0, i1⟩, ⟨by simpa using q0, by simpa using q1⟩, by simp only; omega, by simp only; omega, by simp only; omega, by simp only; omega⟩
    obtain ⟨q, hq⟩ := @Deep.choose_lt SP ⟨sp0⟩ _ _ each
    have hlen : ((List.range len0).map q).length = len0 := by simp
    have hget : ∀ k, k < len0 → ((List.range len0).map q).getD k sp0 = q k := fun k hk => by
      rw [List.getD_eq_getElem?_getD, List.getElem?_map, List.getElem?_range hk]; rfl
    refine ⟨(List.range len0).map q, hlen, by omega, ?_, (fun k hk => ?_), hl, hm⟩
    · by_cases hp : 0 < len0
      · obtain ⟨b, off, spot⟩ := a
        obtain rfl : spot = none := by simpa [Addr.add] using World.cell?_spot (hq 0 hp).1.1
        refine .inr ⟨b, off, rfl, fun k hk => ?_⟩
        rw [hlen] at hk
        have e : ∀ j, (⟨b, off, none⟩ : Addr).add j = ⟨b, off + j, none⟩ := fun j => by unfold Addr.add; split <;> simp_all
        obtain ⟨⟨p0, p1⟩, _⟩ := hq k hk
        rw [e] at p0 p1
        rw [hget k hk]
        exact ⟨p0, by rw [Nat.add_assoc]; exact p1⟩
      · exact .inl (List.length_eq_zero_iff.1 (by omega))
    · rw [hlen] at hk
      rw [hget k hk]
      exact (hq k hk).2

set_option maxRecDepth 100000 in
theorem lifted (os : Os) (started : os.Started) (H : Type) (enc : TypeId × Value → H) :
    ReturnsInHanded {} Try.checked os 4 .any (Rows.reserveBytesSpec.pre6 enc Try.prog Try.f4 Rows.reserveBytesRow.domain false) (Rows.reserveBytesSpec.post enc Try.prog Try.f4 false true false false) := by
  refine returnsInHanded_of_change (C := Try.checked) own started (by kernel_rfl) Try.func4
    (ChangeSpec.witness6 (enc := enc) (C := Try.checked) false ⟨#[], #[.slice none 0 0, .int .i64 0], []⟩ 8 (by kernel_rfl) (by kernel_rfl) (by kernel_rfl) (by kernel_rfl)) ?_
  intro W base args ds gs before hval0 hW hcnd _
  have hval : ∀ (j : Nat) t v, Try.f4.params[j]? = some t → args[j]? = some v → Value.okWide Try.prog W .any base t v := hval0
  have hW' := hW
  obtain ⟨p, q, hA0, hV, rfl, hfz, hnd⟩ := hW
  have hA : DataW.TrodAll enc Try.prog W 0 (fun _ => true) true Try.f4.params.toList args.toList ds p := hA0
  rw [Try.params4] at hA hval
  obtain ⟨v0, vs0, d0, ds0, p0, q0, hargs, rfl, rfl, h0, r0⟩ := trodAll_cons hA
  obtain ⟨v1, vs1, d1, ds1, p1, q1, rfl, rfl, rfl, h1, r1⟩ := trodAll_cons r0
  obtain ⟨rfl, rfl, rfl⟩ := trodAll_nil r1
  obtain rfl : args = #[v0, v1] := by cases args; simp_all
  obtain ⟨rfl, rfl⟩ := trodVars_none hV
  obtain ⟨a0, len0, cap0, rfl⟩ := okWide_slice Try.underlying22 (hval 0 22 v0 rfl rfl)
  have k0 := h0
  have lt0 : ∀ x ∈ p0, x.block < W.heap.size := by obtain ⟨m, hm⟩ := k0; exact DataW.trod_lt m _ _ _ hm
  obtain ⟨l0, rfl, hl0, hr0, hs0, hc0⟩ := rdSp_of_trod h0
  obtain ⟨a1, rfl, rfl, rfl, w1⟩ := open_int Try.underlying3 (hval 1 3 v1 rfl rfl) h1
  clear hA0 hval0
  refine (reserveBytes_any reserve_must a0 cap0 l0 a1 W hr0 hc0.1 hc0.2 (w64S_mem hs0) (bounds_i64 w1).1 (bounds_i64 w1).2).mono fun e W' ⟨he, bel⟩ => ?_
  subst he
  exact ⟨_, rfl, _, _, _, [], _, [], hW', trodAll_mk1 (shut_bool Try.underlying4 _), (trodAll_cons_mk (Below.trod laidOut (by kernel_rfl) (of_decide_eq_true (by kernel_rfl)) k0 bel lt0) (trodAll_cons_mk (shut_int Try.underlying3 w1) trodAll_mk0)), rfl, bel.frame _, fun h => by cases h⟩

theorem over : Rows.reserveBytesRow.holds Try.pinned (OpenSpec.ofChange Rows.reserveBytesSpec) :=
  OpenClaim.holds_of_wide 4 Try.f4 rfl rfl rfl rfl rfl rfl rfl ⟨rfl, rfl, rfl, rfl, rfl⟩ rfl rfl rfl rfl rfl (by kernel_rfl) Try.func4 (by kernel_rfl)
    (of_decide_eq_true (by kernel_rfl)) (by unfold Func.isWrapper; first | (rw [if_pos (by decide +kernel)]; kernel_rfl) | (rw [if_neg (by decide +kernel)]; exact ⟨rfl, rfl⟩))
    (fun os started H enc _ => lifted os started H enc)

/-- The statement. -/
theorem proved : Rows.ReserveBytesSaid := over
#print axioms proved
end Go.Proofs.Ytgfblcfleohdjaa.reserveBytes
