/- What the document's Take does, at any token. Conditions: a Builder in memory, not more in it than Take lets in. -/
import Derived.Test.YtmgmpjgofolkgaaMg21
import Derived.Test.YtmgmpjgofolkgaaMg22
import Derived.Test.YtmgmpjgofolkgaaMg23
import Derived.Test.YtmgmpjgofolkgaaMg24
namespace Go.Proofs.Ytmgmpjgofolkgaa
open Go.RowKit

/-- Not more is in a Builder than Take lets in. -/
def okB (b : BD) : Prop := b.op.length ≤ 8 ∧ b.ns ≤ 64 ∧ b.pn ≤ 256 ∧ b.op.length ≤ b.ns ∧ ∀ n ∈ b.op, n.ps.length ≤ b.pn ∧ n.ks.length + b.op.length ≤ b.ns
theorem okB_zero : okB bd0 := ⟨by decide, by decide, by decide, by decide, fun n hn => absurd hn List.not_mem_nil⟩
theorem getLastD_snocT {α : Type} (l : List α) (x d : α) : (l ++ [x]).getLastD d = x := by simp
theorem snoc_of_ne {α : Type} : ∀ {l : List α}, l ≠ [] → ∃ r x, l = r ++ [x] := fun {l} h => ⟨l.dropLast, l.getLast h, (List.dropLast_concat_getLast h).symm⟩
theorem onLast_snocT (f : ND → ND) (l : List ND) (x : ND) : onLast f (l ++ [x]) = l ++ [f x] := by unfold onLast; rw [getLastD_snocT, List.dropLast_concat]
theorem okB_take (b : BD) (t : TK) (h : okB b) : okB (takeR b t).1 := by
  obtain ⟨op, dn, rt, ns, pn⟩ := b
  obtain ⟨h1, h2, h3, h4, h5⟩ := h
  simp only at h1 h2 h3 h4 h5
  unfold takeR
  simp only
  split
  · exact ⟨h1, h2, h3, h4, h5⟩
  split
  · exact ⟨h1, h2, h3, h4, h5⟩
  rename_i g1 g2
  split
  · split
    · exact ⟨h1, h2, h3, h4, h5⟩
    split
    · exact ⟨h1, h2, h3, h4, h5⟩
    · refine ⟨?_, ?_, h3, ?_, fun n hn => ?_⟩
      · show (op ++ [_]).length ≤ 8; rw [len_snoc]; omega
      · show ns + 1 ≤ 64; omega
      · show (op ++ [_]).length ≤ ns + 1; rw [len_snoc]; omega
      · show n.ps.length ≤ pn ∧ n.ks.length + (op ++ [_]).length ≤ ns + 1
        rw [len_snoc]
        rcases List.mem_append.1 hn with hn | hn
        · have := h5 n hn; omega
        · rw [List.mem_singleton] at hn; subst hn
          exact ⟨Nat.zero_le _, by show 0 + _ ≤ _; omega⟩
  · rename_i hk1
    have hne : op ≠ [] := fun e => g2 (.inr (.inr (.inr ⟨hk1, e⟩)))
    obtain ⟨l, x, rfl⟩ := snoc_of_ne hne
    rw [len_snoc] at h1 h4 h5
    have hx := h5 x (List.mem_append_right _ (List.mem_singleton.2 rfl))
    split
    · split
      · exact ⟨by rw [len_snoc]; exact h1, h2, h3, by rw [len_snoc]; exact h4, fun n hn => by show _ ∧ _ + (l ++ [x]).length ≤ _; rw [len_snoc]; exact h5 n hn⟩
      split
      · exact ⟨by rw [len_snoc]; exact h1, h2, h3, by rw [len_snoc]; exact h4, fun n hn => by show _ ∧ _ + (l ++ [x]).length ≤ _; rw [len_snoc]; exact h5 n hn⟩
      · rw [onLast_snocT]
        refine ⟨by rw [len_snoc]; exact h1, h2, by show pn + 1 ≤ 256; omega, by rw [len_snoc]; exact h4, fun n hn => ?_⟩
        show n.ps.length ≤ pn + 1 ∧ n.ks.length + (l ++ [_]).length ≤ ns
        rw [len_snoc]
        rcases List.mem_append.1 hn with hn | hn
        · have := h5 n (List.mem_append_left _ hn); omega
        · rw [List.mem_singleton] at hn; subst hn
          refine ⟨?_, hx.2⟩
          show (x.ps ++ [_]).length ≤ pn + 1
          rw [len_snoc]; omega
    split
    · exact ⟨Nat.zero_le _, h2, h3, Nat.zero_le _, fun n hn => absurd hn List.not_mem_nil⟩
    · rename_i hl
      rw [len_snoc] at hl
      have hne2 : l ≠ [] := fun e => hl (by rw [e]; rfl)
      obtain ⟨l2, z, rfl⟩ := snoc_of_ne hne2
      rw [List.dropLast_concat, onLast_snocT]
      rw [len_snoc] at h1 h4 h5
      have hz := h5 z (List.mem_append_left _ (List.mem_append_right _ (List.mem_singleton.2 rfl)))
      refine ⟨by show (l2 ++ [_]).length ≤ 8; rw [len_snoc]; omega, h2, h3, by show (l2 ++ [_]).length ≤ ns; rw [len_snoc]; omega, fun n hn => ?_⟩
      show n.ps.length ≤ pn ∧ n.ks.length + (l2 ++ [_]).length ≤ ns
      rw [len_snoc]
      rcases List.mem_append.1 hn with hn | hn
      · have := h5 n (List.mem_append_left _ (List.mem_append_left _ hn)); omega
      · rw [List.mem_singleton] at hn; subst hn
        refine ⟨hz.1, ?_⟩
        show (z.ks ++ [_]).length + _ ≤ ns
        rw [len_snoc]; have := hz.2; omega

theorem take_any (B g : Nat) (b : BD) (vo : Value) (L : List ON) (r2 r3 : Value) (t : TK) (w : World) (h : BX w B g b vo L r2 r3) (hok : okB b) :
    Calls Try.prog 34 #[.pointer (some ⟨g, 0, none⟩), .agg #[.int .i64 t.kd, .string t.nm, .string t.vl]] w fun e w' => e = .returned (.int .i64 ((takeR b t).2 : Int)) ∧ ∃ vo' L' r2' r3', BX w' B g (takeR b t).1 vo' L' r2' r3' ∧ Moved w w' (fpO g vo L) (fpO g vo' L') := by
  obtain ⟨op, dn, rt, ns, pn⟩ := b
  obtain ⟨kd, nm, vl⟩ := t
  obtain ⟨h1, h2, h3, h4, h5⟩ := hok
  simp only at h1 h2 h3 h4 h5 ⊢
  have hop : L.map ON.nd = op := h.op
  have hll : op.length = L.length := by rw [← hop, List.length_map]
  by_cases k4 : kd = 4
  · have e : takeR ⟨op, dn, rt, ns, pn⟩ ⟨kd, nm, vl⟩ = (⟨op, dn, rt, ns, pn⟩, 0) := if_pos k4
    rw [e]
    exact btake_nop B g op dn rt ns pn vo L r2 r3 kd nm vl w h k4
  by_cases kb : kd < 1 ∨ 3 < kd ∨ dn = true ∨ (kd ≠ 1 ∧ op = [])
  · have e : takeR ⟨op, dn, rt, ns, pn⟩ ⟨kd, nm, vl⟩ = (⟨op, dn, rt, ns, pn⟩, 6) := by
      unfold takeR; simp only; rw [if_neg k4, if_pos kb]
    rw [e]
    by_cases c1 : kd < 1
    · exact btake_low B g op dn rt ns pn vo L r2 r3 kd nm vl w h c1
    by_cases c2 : 3 < kd
    · exact btake_high B g op dn rt ns pn vo L r2 r3 kd nm vl w h (by omega)
    cases dn with
    | true => exact btake_done B g op true rt ns pn vo L r2 r3 kd nm vl w h (by omega) (by omega) rfl
    | false =>
      have hc : kd ≠ 1 ∧ op = [] := by
        rcases kb with hh | hh | hh | hh
        · exact absurd hh c1
        · exact absurd hh c2
        · cases hh
        · exact hh
      exact btake_none B g op false rt ns pn vo L r2 r3 kd nm vl w h (by omega) (by omega) rfl (by rw [← hll, hc.2]; rfl)
  have b1 : ¬ kd < 1 := fun hh => kb (.inl hh)
  have b2 : ¬ 3 < kd := fun hh => kb (.inr (.inl hh))
  have hdn : dn = false := by
    cases dn with
    | true => exact absurd (.inr (.inr (.inl rfl))) kb
    | false => rfl
  by_cases k1 : kd = 1
  · by_cases c8 : op.length = 8
    · have e : takeR ⟨op, dn, rt, ns, pn⟩ ⟨kd, nm, vl⟩ = (⟨op, dn, rt, ns, pn⟩, 13) := by
        unfold takeR; simp only; rw [if_neg k4, if_neg kb, if_pos k1, if_pos c8]
      rw [e]
      exact btake_deep B g op dn rt ns pn vo L r2 r3 kd nm vl w h k1 hdn (by omega)
    by_cases c64 : ns = 64
    · have e : takeR ⟨op, dn, rt, ns, pn⟩ ⟨kd, nm, vl⟩ = (⟨op, dn, rt, ns, pn⟩, 7) := by
        unfold takeR; simp only; rw [if_neg k4, if_neg kb, if_pos k1, if_neg c8, if_pos c64]
      rw [e]
      exact btake_many B g op dn rt ns pn vo L r2 r3 kd nm vl w h k1 hdn (by omega) c64
    · have e : takeR ⟨op, dn, rt, ns, pn⟩ ⟨kd, nm, vl⟩ = (⟨op ++ [.mk nm [] []], dn, rt, ns + 1, pn⟩, 0) := by
        unfold takeR; simp only; rw [if_neg k4, if_neg kb, if_pos k1, if_neg c8, if_neg c64]
      rw [e]
      exact btake_begin B g op dn rt ns pn vo L r2 r3 kd nm vl w h k1 hdn (by omega) (by omega)
  have hne : L ≠ [] := fun e => kb (.inr (.inr (.inr ⟨k1, by rw [← hop, e]; rfl⟩)))
  obtain ⟨L0, x, rfl⟩ := snoc_of_ne hne
  have hop2 : op = L0.map ON.nd ++ [x.nd] := by rw [← hop, map_snoc]
  have hlast : op.getLastD nd0 = x.nd := by rw [hop2, getLastD_snocT]
  have hxo : x.nd ∈ op := by rw [hop2]; exact List.mem_append_right _ (List.mem_singleton.2 rfl)
  have hx5 := h5 x.nd hxo
  by_cases k3 : kd = 3
  · by_cases ck : (op.getLastD nd0).ks ≠ []
    · have e : takeR ⟨op, dn, rt, ns, pn⟩ ⟨kd, nm, vl⟩ = (⟨op, dn, rt, ns, pn⟩, 6) := by
        unfold takeR; simp only; rw [if_neg k4, if_neg kb, if_neg k1, if_pos k3, if_pos ck]
      rw [e]
      rw [hlast] at ck
      exact btake_late B g op dn rt ns pn vo L0 x r2 r3 kd nm vl w h k3 hdn (by
        rcases Nat.eq_zero_or_pos x.kl.length with h0 | h0
        · exact absurd (by show x.kl.map KD.nd = []; rw [List.length_eq_zero_iff.1 h0]; rfl) ck
        · exact h0)
    have hkl : x.kl = [] := by
      rw [hlast] at ck
      have : x.kl.map KD.nd = [] := Classical.not_not.1 ck
      exact List.map_eq_nil_iff.1 this
    by_cases cp : pn = 256
    · have e : takeR ⟨op, dn, rt, ns, pn⟩ ⟨kd, nm, vl⟩ = (⟨op, dn, rt, ns, pn⟩, 7) := by
        unfold takeR; simp only; rw [if_neg k4, if_neg kb, if_neg k1, if_pos k3, if_neg ck, if_pos cp]
      rw [e]
      exact btake_full B g op dn rt ns pn vo L0 x r2 r3 kd nm vl w h k3 hdn (by rw [hkl]; rfl) cp
    · have e : takeR ⟨op, dn, rt, ns, pn⟩ ⟨kd, nm, vl⟩ = (⟨L0.map ON.nd ++ [.mk x.nm (x.ps ++ [⟨nm, vl⟩]) (x.kl.map KD.nd)], dn, rt, ns, pn + 1⟩, 0) := by
        unfold takeR; simp only; rw [if_neg k4, if_neg kb, if_neg k1, if_pos k3, if_neg ck, if_neg cp, hop2, onLast_snocT]; rfl
      rw [e]
      exact btake_prop B g op dn rt ns pn vo L0 x r2 r3 kd nm vl w h k3 hdn hkl (by omega) (by have := hx5.1; show x.ps.length ≤ 256; exact Nat.le_trans this h3)
  · have k2 : kd = 2 := by omega
    by_cases cl : op.length = 1
    · have hL0 : L0 = [] := List.length_eq_zero_iff.1 (by rw [len_snoc] at hll; omega)
      have e : takeR ⟨op, dn, rt, ns, pn⟩ ⟨kd, nm, vl⟩ = (⟨[], true, x.nd, ns, pn⟩, 0) := by
        unfold takeR; simp only; rw [if_neg k4, if_neg kb, if_neg k1, if_neg k3, if_pos cl, hlast]
      rw [e]
      exact btake_root B g op dn rt ns pn vo L0 x r2 r3 kd nm vl w h k2 hdn hL0
    · have hne2 : L0 ≠ [] := fun e => cl (by rw [hll, e]; rfl)
      obtain ⟨L1, z, rfl⟩ := snoc_of_ne hne2
      have e : takeR ⟨op, dn, rt, ns, pn⟩ ⟨kd, nm, vl⟩ = (⟨L1.map ON.nd ++ [.mk z.nm z.ps (z.kl.map KD.nd ++ [x.nd])], dn, rt, ns, pn⟩, 0) := by
        unfold takeR; simp only; rw [if_neg k4, if_neg kb, if_neg k1, if_neg k3, if_neg cl, hlast, hop2, List.dropLast_concat, map_snoc, onLast_snocT]; rfl
      rw [e]
      have hz := (h5 z.nd (by rw [hop2, map_snoc]; exact List.mem_append_left _ (List.mem_append_right _ (List.mem_singleton.2 rfl)))).2
      have hzl : z.kl.length ≤ 64 := by
        have : (z.kl.map KD.nd).length + op.length ≤ ns := hz
        rw [List.length_map] at this; omega
      exact btake_kid B g op dn rt ns pn vo (L1 ++ [z]) x r2 r3 kd nm vl w h k2 hdn L1 z rfl hzl
end Go.Proofs.Ytmgmpjgofolkgaa
