/- slices.IndexFunc, ContainsFunc and Clone of spans. Conditions: a function value that tells of each span what f says and changes nothing that was there; at most 2^40 spans (Clone: 1000). -/
import Derived.Test.YtgfblcfleohdjaaRaM
import Derived.Test.YtgfblcfleohdjaaSpD
import Derived.Test.YtgfblcfleohdjaaOwn
import Derived.Shelf.SlicesQ.Load
import Derived.Laws.AppendOwn
namespace Go.Proofs.Ytgfblcfleohdjaa
open Go.RowKit

/-- The first place of which f is true, or -1. -/
def IdxOf (f : SP → Bool) (L : List SP) (r : Int) : Prop := (r = -1 ∧ ∀ j, j < L.length → f (L.getD j sp0) = false) ∨ ∃ k : Nat, r = k ∧ k < L.length ∧ f (L.getD k sp0) = true ∧ ∀ j, j < k → f (L.getD j sp0) = false
theorem idx_any {f : SP → Bool} {L : List SP} {r : Int} (h : IdxOf f L r) : decide (0 ≤ r) = L.any f := by
  rcases h with ⟨rfl, h⟩ | ⟨k, rfl, hk, h, _⟩
  · rw [any_sp_no h]; rfl
  · rw [any_sp hk h]; exact decide_eq_true (by omega)

set_option maxHeartbeats 3200000 in
set_option maxRecDepth 100000 in
theorem indexF_any (g : Nat) (lb : Array Value) (eg : ∀ args w, (callFunc g args).run Try.prog w = .ok (.enter g args) w) (f : SP → Bool) (A : Option Addr) (cap : Nat) (L : List SP) (w : World) (hr : RdSp w A L) (hl : L.length ≤ 1099511627776)
    (hp : ∀ (y : SP) (W : World), Below w.heap.size w W → Calls Try.prog g (#[.agg #[.int .i64 y.p, .int .i64 y.n]] ++ lb) W fun e w' => e = .returned (.bool (f y)) ∧ Below W.heap.size W w') :
    Calls Try.prog 18 #[.slice A L.length cap, .func (.func g) #[] lb] w fun e w' => (∃ r : Int, e = .returned (.int .i64 r) ∧ IdxOf f L r) ∧ Below w.heap.size w w' := by
  have HR := Lib.hid hr
  have HP := Lib.hid hp
  clear hr hp
  go_enter Try.func18, Try.ntmps18
  go_wp2
  go_loopw [8] (fun i wr => ∃ k : Nat, k ≤ L.length ∧ i = .int .i64 k ∧ (∀ j, j < k → f (L.getD j sp0) = false) ∧ Below w.heap.size w wr) (fun i _ => L.length - (intOf i).toNat)
  case atStart => exact ⟨0, Nat.zero_le _, rfl, fun _ h => absurd h (Nat.not_lt_zero _), Below.refl _ _⟩
  case round =>
    obtain ⟨k, hk, rfl, hall, hb⟩ := hrel
    have HALL := Lib.hid hall
    have HB := Lib.hid hb
    have hsz := hb.size
    clear hall hb
    by_cases hlt : k < L.length
    · have hki : (k : Int) < L.length := by omega
      obtain ⟨b, off, y, rfl, hpt, HX⟩ := (HR.out.below HB.out).at_ hlt
      have hcall := HP.out y wr HB.out
      have HA1 : Hid (f y = true → IdxOf f L (k : Int)) := fun h => .inr ⟨k, rfl, hlt, by rw [HX.out]; exact h, HALL.out⟩
      have HA2 : Hid (f y = false → ∀ j, j < k + 1 → f (L.getD j sp0) = false) := fun h j hj => by
        by_cases e : j = k
        · subst e; rw [HX.out]; exact h
        · exact HALL.out j (by omega)
      generalize f y = fx at *
      obtain ⟨p, n⟩ := y
      obtain ⟨h1, h2⟩ := hpt
      simp only at h1 h2 hcall
      clear HX
      cases fx with
      | true =>
        have HN := Lib.hid (HA1.out rfl)
        clear HA1 HA2
        go_wp2_with (go_at_fn g; refine hcall.mono ?_; rintro e w' ⟨rfl, hb'⟩; have HB1 := Lib.hid (HB.out.trans (hb'.mono hsz)); clear hb')
        go_ret
        exact ⟨⟨_, rfl, HN.out⟩, HB1.out⟩
      | false =>
        have HN := Lib.hid (HA2.out rfl)
        clear HA1 HA2
        go_wp2_with (go_at_fn g; refine hcall.mono ?_; rintro e w' ⟨rfl, hb'⟩; have HB1 := Lib.hid (HB.out.trans (hb'.mono hsz)); clear hb')
        go_roundw
        case rel => exact ⟨k + 1, by omega, by go_num, HN.out, HB1.out⟩
        case measure => simp [intOf]; omega
    · obtain rfl : k = L.length := by omega
      have HN : Hid (IdxOf f L (-1)) := .inl ⟨rfl, HALL.out⟩
      go_wp2
      go_ret
      exact ⟨⟨_, rfl, HN.out⟩, HB.out⟩
set_option maxHeartbeats 800000 in
set_option maxRecDepth 100000 in
theorem containsF_any (g : Nat) (lb : Array Value) (eg : ∀ args w, (callFunc g args).run Try.prog w = .ok (.enter g args) w) (f : SP → Bool) (A : Option Addr) (cap : Nat) (L : List SP) (w : World) (hr : RdSp w A L) (hl : L.length ≤ 1099511627776)
    (hp : ∀ (y : SP) (W : World), Below w.heap.size w W → Calls Try.prog g (#[.agg #[.int .i64 y.p, .int .i64 y.n]] ++ lb) W fun e w' => e = .returned (.bool (f y)) ∧ Below W.heap.size W w') :
    Calls Try.prog 23 #[.slice A L.length cap, .func (.func g) #[] lb] w fun e w' => e = .returned (.bool (L.any f)) ∧ Below w.heap.size w w' := by
  have HI : Hid (Calls Try.prog 18 #[.slice A L.length cap, .func (.func g) #[] lb] w fun e w' => (∃ r : Int, e = .returned (.int .i64 r) ∧ decide (0 ≤ r) = L.any f) ∧ Below w.heap.size w w') := (indexF_any g lb eg f A cap L w hr hl hp).mono fun e w' ⟨⟨r, h1, h2⟩, h3⟩ => ⟨⟨r, h1, idx_any h2⟩, h3⟩
  generalize L.any f = an at *
  clear hr hp hl
  go_enter Try.func23, Try.ntmps23
  go_wp2_with fail
  refine HI.out.mono ?_
  rintro e w1 ⟨⟨r, rfl, hr⟩, hb⟩
  clear HI
  go_wp2
  go_ret
  exact ⟨rfl, hb⟩

theorem rdSp_newsD {w : World} {b off : Nat} {L : List SP} (hr : RdSp w (some ⟨b, off, none⟩) L) (j : Nat) (u : Value) (hj : (spD L)[j]? = some u) : w.cell? ⟨b, off + j, none⟩ = some u := by
  rcases hr with rfl | ⟨b', off', he, hc⟩
  · cases hj
  · injection he with he
    injection he with h1 h2
    subst h1; subst h2
    exact spD_news hc j u hj
set_option maxHeartbeats 800000 in
set_option maxRecDepth 100000 in
/-- slices.Clone of spans: a slice of the call's own. -/
theorem cloneO_any (A : Option Addr) (cap : Nat) (L : List SP) (w : World) (hr : RdSp w A L) (hl : L.length ≤ 1000) :
    Calls Try.prog 21 #[.slice A L.length cap] w fun e w' => ∃ v, e = .returned v ∧ w'.ownsRow w.heap.size 24 2 v L.length (spD L) ∧ Below w.heap.size w w' := by
  have q22 : ∀ (w : World) (a : Option Addr) (n c n' c' : Nat), (binOp .eql 22 (.slice a n c) (.slice none n' c')).run Try.prog w = .ok (.bool a.isNone) w := fun w a n c n' c' => Lib.run_eql_slice_nil w _ _ a n c n' c' Try.underlying22
  have HR := Lib.hid hr
  clear hr
  match A, HR with
  | none, HR =>
    have hz : L = [] := by
      rcases HR.out with h | ⟨b, off, h, _⟩
      · exact h
      · cases h
    subst hz
    go_enter Try.func21, Try.ntmps21
    go_wp2
    go_ret
    exact ⟨_, rfl, World.ownsRow_nil _ _ _ _, Below.refl _ _⟩
  | some ad, HR =>
    obtain ⟨hu, i0, z0, hi0, hz0, hz1, hz2, hz3, hz4⟩ := elemSpD
    have HI := Lib.hid hi0
    have HZ0 := Lib.hid hz0
    have HZ1 := Lib.hid hz1
    have HZ2 := Lib.hid hz2
    have HZ3 := Lib.hid hz3
    have HL : Hid ((spD L).length = L.length * 2) := spD_length L
    have HNW : Hid (∀ (o : Obj) (j : Nat) (u : Value), (spD L)[j]? = some u → (w.alloc o).cell? (ad.add j) = some u) := fun o j u hj => by
      rcases HR.out with rfl | ⟨b, off, h, hc⟩
      · cases hj
      · injection h with h
        subst h
        rw [Addr.add_lit]; exact Lib.cell?_alloc_some _ (rdSp_newsD (.inr ⟨b, off, rfl, hc⟩) j u hj)
    have H1 := Lib.hid (spD_cells L)
    clear hi0 hz0 hz1 hz2 hz3 hu
    go_enter Try.func21, Try.ntmps21
    go_wp2_with (at_builtin; refine wpList_append_own _ rfl (.tmp 5) (.tmp 6) 22 rfl w.heap.size 24 i0 z0 2 16 Try.underlying22 HI.out HZ0.out HZ1.out HZ2.out HZ3.out hz4 _ 0 [] rfl (World.ownsRow_made w #[] 0 (Nat.le_refl _) (Nat.zero_le _) rfl) ad L.length cap (spD L) rfl HL.out (HNW.out _) H1.out (by unfold maxLen; omega) (by omega) (by simp) ?_)
    intro v' w1 hown hgrow _
    have HO := Lib.hid hown
    have HB := Lib.hid (((Below.refl w.heap.size w).alloc (Nat.le_refl _) (.cells #[] 24)).grown hgrow (by simp) (by intro k hk; simp [Value.ownBlock] at hk; omega))
    clear hown hgrow
    go_wp2
    go_ret
    exact ⟨_, rfl, HO.out, HB.out⟩
end Go.Proofs.Ytgfblcfleohdjaa
