/- What Offsets returns. Conditions: a slice that reads as at most 40 strings, each of which fits. -/
import Derived.Test.YtdflflcidajenaaStD
import Derived.Test.YtdflflcidajenaaRdT
namespace Go.Proofs.Ytdflflcidajenaa
open Go.RowKit Go.Maps Go.WideMaps

theorem elemI : ElemIs Try.prog 55 3 (.int .i64 0) 8 := elemIs_mk Try.underlying55 rfl (by kernel_rfl)
/-- Places as cells. -/
def natV (l : List Nat) : List Value := l.map fun (n : Nat) => Value.int .i64 (n : Int)
theorem natV_snoc (l : List Nat) (x : Nat) : natV (l ++ [x]) = natV l ++ [.int .i64 (x : Int)] := by simp [natV]
/-- What Offsets returns: the places, the bytes, the error. -/
def offN (l : List ByteArray) : List Nat := if allB l = true then plc [] l else []
def offS (l : List ByteArray) : ByteArray := if allB l = true then ⟨(flat (adds [] l)).toArray⟩ else ⟨#[]⟩
def offE (l : List ByteArray) : Nat := if allB l = true then 0 else 1
theorem off_bad {l : List ByteArray} (h : allB l = false) : offN l = [] ∧ offS l = ⟨#[]⟩ ∧ offE l = 1 := by
  unfold offN offS offE; rw [h]; exact ⟨rfl, rfl, rfl⟩
theorem off_good {l : List ByteArray} (h : allB l = true) : offN l = plc [] l ∧ offS l = ⟨(flat (adds [] l)).toArray⟩ ∧ offE l = 0 := by
  unfold offN offS offE; rw [h]; exact ⟨rfl, rfl, rfl⟩
theorem BK.not_row {w : World} {g : Nat} {v : Value} {m : Option Nat} {L : List ByteArray} (h : BK w g v m L) {base e size n : Nat} {u : Value} {xs : List Value} (ho : w.ownsRow base e size u n xs) (h1 : e ≠ 43) (h2 : e ≠ 5) {k : Nat} (hk : u.ownBlock = some k) : ¬ fpB g v m k := by
  obtain ⟨cur, hc⟩ := ow_type ho hk
  exact h.not_arr (g' := k) (t := e) (cs := cur) hc h1 h2
/-- A Block that the call has made, and a slice of places. -/
def Of9 (B : Nat) (w : World) (g : Nat) (u : Value) (L : List ByteArray) (P : List Nat) : Prop :=
  ∃ v m, BK w g v m L ∧ (∀ k, fpB g v m k → B ≤ k) ∧ w.ownsRow 0 3 1 u P.length (natV P) ∧ (∀ k, u.ownBlock = some k → B ≤ k)
section
variable {B : Nat} {w w' : World} {g : Nat} {u u' : Value} {L : List ByteArray} {P P' : List Nat}
theorem of9_add (h : Of9 B w g u L P) (hB : B ≤ w.heap.size) (s : ByteArray) (hs : s.size ≤ maxLen) (hL : L.length ≤ 1073741824) :
    Calls Try.prog 34 #[.pointer (some ⟨g, 0, none⟩), .string s] w fun e w' => e = .returned (.tuple #[.int .i64 ((addV L s).1 : Int), .int .i64 ((addV L s).2 : Int)]) ∧ Of9 B w' g u (addA L s) P ∧ Below B w w' := by
  obtain ⟨v, m, h1, h2, h3, h4⟩ := h
  refine (sadd_any g v m L s w h1 hs hL).mono ?_
  rintro e w' ⟨he, v', m', hb, hm⟩
  refine ⟨he, ⟨v', m', hb, fun k hk => ?_, hm.row h3 (fun k hk => h1.not_row h3 (by decide) (by decide) hk), h4⟩, hm.below h2 hB⟩
  rcases hm.foot k hk with h5 | h5
  · exact h2 k h5
  · exact Nat.le_trans hB h5
theorem of9_put (h : Of9 B w g u L P) (hB : B ≤ w.heap.size) (ho : w'.ownsRow 0 3 1 u' P'.length (natV P')) (hm : Moved w w' (ownS u) (ownS u')) : Of9 B w' g u' L P' ∧ Below B w w' := by
  obtain ⟨v, m, h1, h2, h3, h4⟩ := h
  refine ⟨⟨v, m, h1.kept hm (fun k hk hu => h1.not_row h3 (by decide) (by decide) hu hk), h2, ho, fun k hk => ?_⟩, hm.below h4 hB⟩
  rcases hm.foot k hk with h5 | h5
  · exact h4 k h5
  · exact Nat.le_trans hB h5
theorem of9_bytes (h : Of9 B w g u L P) : Calls Try.prog 20 #[.pointer (some ⟨g, 0, none⟩)] w fun e w' => e = .returned (.string ⟨(flat L).toArray⟩) ∧ w = w' := by
  obtain ⟨v, m, h1, _⟩ := h
  exact sbytes_any g v m L w h1
theorem of9_row (h : Of9 B w g u L P) : w.ownsRow 0 3 1 u P.length (natV P) ∧ w.ownsRow B 3 1 u P.length (natV P) := by
  obtain ⟨v, m, _, _, h3, h4⟩ := h
  exact ⟨h3, ow_base h3 h4⟩
theorem of9_new (w : World) : Of9 w.heap.size (w.alloc (.cells #[.slice none 0 0, .map none, .int .i64 0] 43)) w.heap.size (.slice none 0 0) [] [] :=
  ⟨.slice none 0 0, none, .inl ⟨rfl, rfl, rfl, Arr.new _ _ _⟩, (fun k hk => by
    rcases hk with hk | hk | hk
    · exact Nat.le_of_eq hk.symm
    · cases hk
    · cases hk), World.ownsRow_nil _ _ _ _, (fun _ hk => nomatch hk)⟩
end

end Go.Proofs.Ytdflflcidajenaa
