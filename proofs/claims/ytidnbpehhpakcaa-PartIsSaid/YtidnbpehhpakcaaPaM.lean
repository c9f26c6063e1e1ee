/- Parts in memory: a slice of them, and of names; what the document's Few and Find return. Conditions: slices that read as parts. -/
import Derived.Test.YtidnbpehhpakcaaPaPlain
import Derived.Test.YtidnbpehhpakcaaGuA
import Derived.Laws.ResultCell
namespace Go.Proofs.Ytidnbpehhpakcaa
open Go.RowKit

/-- A part lies at a place. -/
def PtAt (w : World) (b o : Nat) (p : PT) : Prop := w.cell? ⟨b, o, none⟩ = some (.string p.nm) ∧ w.cell? ⟨b, o + 1, none⟩ = some (.int .i64 p.fi) ∧ w.cell? ⟨b, o + 2, none⟩ = some (.int .i64 p.mn)
/-- The slice at A reads as the parts L. -/
def RdP (w : World) (A : Option Addr) (L : List PT) : Prop := L = [] ∨ ∃ b off, A = some ⟨b, off, none⟩ ∧ ∀ k, k < L.length → PtAt w b (off + k * 3) (L.getD k pt0)
theorem RdP.at_ {w : World} {A : Option Addr} {L : List PT} (h : RdP w A L) {k : Nat} (hk : k < L.length) : ∃ b off x, A = some ⟨b, off, none⟩ ∧ PtAt w b (off + k * 3) x ∧ Hid (L.getD k pt0 = x) := by
  rcases h with rfl | ⟨b, off, rfl, hc⟩
  · simp at hk
  · exact ⟨b, off, _, rfl, hc k hk, rfl⟩
theorem PtAt.below {w w' : World} {b o : Nat} {p : PT} (h : PtAt w b o p) (hb : Below w.heap.size w w') : PtAt w' b o p := by
  obtain ⟨h1, h2, h3⟩ := h
  have hlt : b < w.heap.size := World.block_lt_of_cell? w _ h1
  have e : ∀ j, w'.cell? ⟨b, j, none⟩ = w.cell? ⟨b, j, none⟩ := fun j => World.cell?_of_block (a := ⟨b, j, none⟩) (hb.block b hlt)
  exact ⟨by rw [e]; exact h1, by rw [e]; exact h2, by rw [e]; exact h3⟩
theorem RdP.below {w w' : World} {A : Option Addr} {L : List PT} (h : RdP w A L) (hb : Below w.heap.size w w') : RdP w' A L := by
  rcases h with h | ⟨b, off, rfl, hc⟩
  · exact .inl h
  · exact .inr ⟨b, off, rfl, fun k hk => (hc k hk).below hb⟩
theorem RdP.alloc {w : World} {A : Option Addr} {L : List PT} (h : RdP w A L) (o : Obj) : RdP (w.alloc o) A L := h.below ((Below.refl _ _).alloc (Nat.le_refl _) o)
/-- The slice at A reads as the strings N. -/
def RdN (w : World) (A : Option Addr) (N : List ByteArray) : Prop := N = [] ∨ ∃ b off, A = some ⟨b, off, none⟩ ∧ ∀ k, k < N.length → w.cell? ⟨b, off + k, none⟩ = some (.string (N.getD k ByteArray.empty))
theorem RdN.at_ {w : World} {A : Option Addr} {N : List ByteArray} (h : RdN w A N) {k : Nat} (hk : k < N.length) : ∃ b off x, A = some ⟨b, off, none⟩ ∧ w.cell? ⟨b, off + k, none⟩ = some (.string x) ∧ Hid (N.getD k ByteArray.empty = x) := by
  rcases h with rfl | ⟨b, off, rfl, hc⟩
  · simp at hk
  · exact ⟨b, off, _, rfl, hc k hk, rfl⟩
theorem RdN.below {w w' : World} {A : Option Addr} {N : List ByteArray} (h : RdN w A N) (hb : Below w.heap.size w w') : RdN w' A N := by
  rcases h with h | ⟨b, off, rfl, hc⟩
  · exact .inl h
  · refine .inr ⟨b, off, rfl, fun k hk => ?_⟩
    have hck := hc k hk
    have hlt : b < w.heap.size := World.block_lt_of_cell? w _ hck
    rw [World.cell?_of_block (a := ⟨b, off + k, none⟩) (hb.block b hlt)]
    exact hck
/-- A part as cells, and as a value. -/
def ptC (p : PT) : Array Value := #[.string p.nm, .int .i64 p.fi, .int .i64 p.mn]
def ptV (p : PT) : Value := .agg #[.string p.nm, .int .i64 p.fi, .int .i64 p.mn]
theorem infoP (p : PT) : (Try.prog.info? 33).map (·.size) = some (ptC p).size := by show _ = some 3; kernel_rfl
theorem bytes_eq {a b : ByteArray} : (a.toList == b.toList) = decide (a = b) := by
  by_cases h : a = b
  · subst h; simp
  · have : ¬ a.toList = b.toList := fun e => h (by
      rw [ByteArray.toList_eq, ByteArray.toList_eq] at e
      exact ByteArray.ext (Array.ext' e))
    simp [h, this]

/-- Two results, the first a struct of the call's own. -/
theorem results_row_tmp {P : Program} {fn : Func} {p u : Tmp} {ty : TypeId} (h : fn.results = #[.cell p ty, .tmp u]) (tmps : Array Value) (w : World) (g : Nat) (t : TypeId) (cs : Array Value) (fr : Nat × Nat) (d : TypeDesc)
    (hp : tmps.getD p undef = .pointer (some ⟨g, 0, none⟩)) (hg : w.heap[g]? = some (.cells cs t fr))
    (hu : P.underlying ty = some d) (hd : (match d with | .struct _ | .array _ _ => true | _ => false) = true) (hi : (P.info? ty).map (·.size) = some cs.size) :
    (results fn tmps).run P w = .ok (.tuple #[.agg cs, tmps.getD u undef]) w := by
  rw [results_cell_tmp h, hp]
  simp [asAddr, run_loadVar_row w g t ty cs fr d hg hu hd hi, Result.andThen]
theorem ptC_one (p : PT) : (ptC p).all (·.oneCell') = true := by
  rw [Array.all_eq_true_iff_forall_mem]
  intro v hv
  simp [ptC] at hv
  rcases hv with rfl | rfl | rfl <;> rfl

set_option maxHeartbeats 800000 in
set_option maxRecDepth 100000 in
theorem rfew_any (A : Option Addr) (cap : Nat) (L : List PT) (w : World) (hr : RdP w A L) (hl : L.length ≤ maxLen) :
    Calls Try.prog 6 #[.slice A L.length cap] w fun e w' => (∃ b : Bool, e = .returned (.bool b) ∧ (b = true → L.length ≤ 20 ∧ ∀ k, k < L.length → (L.getD k pt0).nm.size ≤ 100)) ∧ w = w' := by
  have HR := Lib.hid hr
  have hl2 : L.length ≤ 9223372036854775807 := by unfold maxLen at hl; omega
  clear hr hl
  go_enter Try.func6, Try.ntmps6
  go_wp2
  go_loopw [3] (fun i wr => ∃ k : Nat, k ≤ L.length ∧ k ≤ 20 ∧ i = .int .i64 k ∧ (∀ j, j < k → (L.getD j pt0).nm.size ≤ 100) ∧ w = wr) (fun i _ => L.length - (intOf i).toNat)
  case atStart => exact ⟨0, Nat.zero_le _, Nat.zero_le _, rfl, fun _ h => absurd h (Nat.not_lt_zero _), rfl⟩
  case round =>
    obtain ⟨k, hk, hk2, rfl, hall, rfl⟩ := hrel
    have HALL := Lib.hid hall
    clear hall
    by_cases hlt : k < L.length
    · have hd1 : decide ((k : Int) < L.length) = true := decide_eq_true (by omega)
      by_cases h24 : k < 20
      · have hd2 : decide ((k : Int) < 20) = true := decide_eq_true (by omega)
        obtain ⟨b, off, x, rfl, ⟨h1, h2, h3⟩, HX⟩ := HR.out.at_ hlt
        have hki : (k : Int) < L.length := by omega
        by_cases hx : 100 < x.nm.size
        · have hd3 : decide ((100 : Int) < x.nm.size) = true := decide_eq_true (by omega)
          clear hx
          go_wp2
          go_ret
          exact ⟨⟨false, rfl, fun h => by cases h⟩, rfl⟩
        · have hd3 : decide ((100 : Int) < x.nm.size) = false := decide_eq_false (by omega)
          have HN : Hid (∀ j, j < k + 1 → (L.getD j pt0).nm.size ≤ 100) := by
            intro j hj
            by_cases e : j = k
            · subst e; rw [HX.out]; omega
            · exact HALL.out j (by omega)
          clear hx
          go_wp2
          go_roundw
          case rel => exact ⟨k + 1, by omega, by omega, by go_num, HN.out, trivial⟩
          case measure => simp [intOf]; omega
      · have hd2 : decide ((k : Int) < 20) = false := decide_eq_false (by omega)
        have hd3 : decide ((L.length : Int) ≤ 20) = false := decide_eq_false (by omega)
        have hd4 : decide (L.length ≤ 20) = false := decide_eq_false (by omega)
        go_wp2
        go_ret
        exact ⟨⟨false, rfl, fun h => by cases h⟩, rfl⟩
    · obtain rfl : k = L.length := by omega
      have hd3 : decide ((L.length : Int) ≤ 20) = true := decide_eq_true (by omega)
      have hd4 : decide (L.length ≤ 20) = true := decide_eq_true (by omega)
      have hd1 : decide ((L.length : Int) < L.length) = false := decide_eq_false (by omega)
      go_wp2
      go_ret
      exact ⟨⟨true, rfl, fun _ => ⟨hk2, HALL.out⟩⟩, rfl⟩

set_option maxHeartbeats 1600000 in
set_option maxRecDepth 100000 in
theorem rfind_any (A : Option Addr) (cap : Nat) (L : List PT) (name : ByteArray) (w : World) (hr : RdP w A L) (hl : L.length ≤ maxLen) :
    Calls Try.prog 12 #[.slice A L.length cap, .string name] w fun e w' => e = .returned (.tuple #[ptV (fdV L name), .bool (fdB L name)]) ∧ Below w.heap.size w w' := by
  have hl2 : L.length ≤ 9223372036854775807 := by unfold maxLen at hl; omega
  have HB := Lib.hid ((Below.refl w.heap.size w).alloc (Nat.le_refl _) (.cells (ptC pt0) 33))
  have HR := Lib.hid (hr.below HB.out)
  have HA := Lib.hid (Arr.new w 33 (ptC pt0))
  clear hr hl
  go_enter Try.func12, Try.ntmps12
  go_wp2
  change Code.wp _ _ _ _ (w.alloc (.cells (ptC pt0) 33))
  generalize w.alloc (.cells (ptC pt0) 33) = W at *
  go_loopw [6] (fun i wr => ∃ k : Nat, k ≤ L.length ∧ i = .int .i64 k ∧ (∀ j, j < k → (L.getD j pt0).nm ≠ name) ∧ wr = W) (fun i _ => L.length - (intOf i).toNat)
  case atStart => exact ⟨0, Nat.zero_le _, rfl, fun _ h => absurd h (Nat.not_lt_zero _), rfl⟩
  case round =>
    obtain ⟨k, hk, rfl, hall, rfl⟩ := hrel
    have HALL := Lib.hid hall
    clear hall
    by_cases hlt : k < L.length
    · have hki : (k : Int) < L.length := by omega
      obtain ⟨b, off, x, rfl, ⟨h1, h2, h3⟩, HX⟩ := HR.out.at_ hlt
      by_cases hx : x.nm = name
      · have hd0 : (x.nm.toList == name.toList) = true := by rw [bytes_eq]; exact decide_eq_true hx
        have HF : Hid (fdP L name = some x) := by
          have := fd_some hlt HALL.out (by rw [HX.out]; exact hx)
          rwa [HX.out] at this
        have HV : Hid (fdV L name = x ∧ fdB L name = true) := by unfold Hid fdV fdB; rw [HF.out]; exact ⟨rfl, rfl⟩
        clear hx HF
        go_wp2_with (refine wpList_store_row rfl 33 (.tmp 4) (.tmp 23) rfl w.heap.size (ptC x) rfl rfl _ _ HA.out (infoP _) rfl (ptC_one _) ?_)
        rw [HV.out.1, HV.out.2]
        try simp only [Exit.inBlock, Exit.then]
        exact bodyPost_ret (results_row_tmp rfl _ _ w.heap.size _ (ptC x) _ _ rfl (HA.out.row _) Try.underlying33 rfl (infoP _)) rfl ⟨rfl, below_setRow HB.out (Nat.le_refl _) _⟩
      · have hd0 : (x.nm.toList == name.toList) = false := by rw [bytes_eq]; exact decide_eq_false hx
        have HN : Hid (∀ j, j < k + 1 → (L.getD j pt0).nm ≠ name) := by
          intro j hj
          by_cases e : j = k
          · subst e; rw [HX.out]; exact hx
          · exact HALL.out j (by omega)
        clear hx
        go_wp2
        go_roundw
        case rel => exact ⟨k + 1, by omega, by go_num, HN.out, trivial⟩
        case measure => simp [intOf]; omega
    · obtain rfl : k = L.length := by omega
      have HF : Hid (fdP L name = none) := fd_none HALL.out
      have HV : Hid (fdV L name = pt0 ∧ fdB L name = false) := by unfold Hid fdV fdB; rw [HF.out]; exact ⟨rfl, rfl⟩
      clear HF
      go_wp2_with (refine wpList_store_row rfl 33 (.tmp 4) (.tmp 24) rfl w.heap.size (ptC pt0) rfl rfl _ _ HA.out (infoP _) rfl (ptC_one _) ?_)
      rw [HV.out.1, HV.out.2]
      try simp only [Exit.inBlock, Exit.then]
      exact bodyPost_ret (results_row_tmp rfl _ _ w.heap.size _ (ptC pt0) _ _ rfl (HA.out.row _) Try.underlying33 rfl (infoP _)) rfl ⟨rfl, below_setRow HB.out (Nat.le_refl _) _⟩
end Go.Proofs.Ytidnbpehhpakcaa
