/- What package tree's reader does at into: a kid, a property, or an error. Conditions: a reader and a node that is being made in memory; the contract of node one level below. -/
import Derived.Test.YtfcclppgjfkfoaaGreatDoorMg45
import Derived.Test.YtfcclppgjfkfoaaGreatDoorMg6
import Derived.Test.YtfcclppgjfkfoaaGreatDoorMg27
namespace Go.Proofs.YtfcclppgjfkfoaaGreatDoor
open Go.RowKit

/-- What node leaves: a node, or an error, as the Builder has it. -/
def NodePost (w0 w : World) (r : Nat) (op : List ND) (nm vl : ByteArray) (l : List TK) (ns pn : Nat) (e : Ending) (w' : World) : Prop :=
  Moved w w' (fun k => k = r) (fun k => k = r) ∧ ((∃ (n : ND) (v2 v3 : Value) (A' : Option Addr) (cap' : Nat) (l' : List TK) (ns' pn' : Nat), e = .returned (.tuple #[.agg #[.string n.nm, v2, v3], .int .i64 0]) ∧ NdAt w' (fun b => w.heap.size ≤ b) n v2 v3 ∧ RdrT w0 w' r A' cap' l' ns' pn' ∧ ns < ns' ∧ ns' ≤ 64 ∧ pn ≤ pn' ∧ pn' ≤ 256 ∧ l'.length ≤ l.length ∧ finB (runB (stB op ns pn) (⟨1, nm, vl⟩ :: l)) = finB (runB (popB op n ns' pn') l')) ∨
    ∃ er : Nat, e = .returned (.tuple #[.agg #[.string ⟨#[]⟩, .slice none 0 0, .slice none 0 0], .int .i64 (er : Int)]) ∧ er ≠ 0 ∧ finB (runB (stB op ns pn) (⟨1, nm, vl⟩ :: l)) = (nd0, er))
/-- The contract of node at a level. -/
def NodeOK (w0 : World) (r L : Nat) : Prop := ∀ (op : List ND) (nm vl : ByteArray) (A : Option Addr) (cap : Nat) (l : List TK) (ns pn : Nat) (w : World), op.length + 1 = L → ns ≤ 64 → pn ≤ 256 → RdrT w0 w r A cap l ns pn → Below w0.heap.size w0 w →
  Calls Tryz.prog 80 #[.pointer (some ⟨r, 0, none⟩), .string nm, .int .i64 (L : Int)] w fun e w' => NodePost w0 w r op nm vl l ns pn e w'
/-- What into leaves. -/
def IntoPost (w0 w : World) (r B g : Nat) (x : ON) (op : List ND) (t : TK) (l : List TK) (ns pn : Nat) (e : Ending) (w' : World) : Prop :=
  Moved w w' (fun k => k = r ∨ B ≤ k) (fun k => k = r ∨ B ≤ k) ∧ ((∃ (x' : ON) (A' : Option Addr) (cap' : Nat) (l' : List TK) (ns' pn' : Nat), e = .returned (.int .i64 0) ∧ (t.kd = 1 ∨ t.kd = 3) ∧ NodeV w' B g x' ∧ RdrT w0 w' r A' cap' l' ns' pn' ∧ ns ≤ ns' ∧ ns' ≤ 64 ∧ pn ≤ pn' ∧ pn' ≤ 256 ∧ x'.ps.length ≤ pn' ∧ x'.kl.length ≤ ns' ∧ l'.length ≤ l.length ∧ finB (runB (stB (op ++ [x.nd]) ns pn) (t :: l)) = finB (runB (stB (op ++ [x'.nd]) ns' pn') l')) ∨
    ∃ er : Nat, e = .returned (.int .i64 (er : Int)) ∧ er ≠ 0 ∧ finB (runB (stB (op ++ [x.nd]) ns pn) (t :: l)) = (nd0, er))
theorem RdrT.kept {w0 w w' : World} {r : Nat} {A : Option Addr} {cap : Nat} {l : List TK} {ns pn : Nat} {F F' : Nat → Prop} (h : RdrT w0 w r A cap l ns pn) (hm : Moved w w' F F') (hr : ¬ F r) : RdrT w0 w' r A cap l ns pn := ⟨hm.arr h.arr hr, h.rd, h.le, h.mx, h.lo⟩
/-- More may change. -/
theorem Moved.wide {w w' : World} {F F' G : Nat → Prop} (h : Moved w w' F F') (hF : ∀ k, F k → G k) : Moved w w' G G := h.inside hF (fun _ hk => .inl hk)
theorem nv_q {w : World} {B g : Nat} {nm : ByteArray} {ps : List PR} {kl : List KD} {p q : Value} (h : NodeV w B g ⟨nm, ps, kl, p, q⟩) : ∃ P pd Q qd, p = .slice P ps.length pd ∧ q = .slice Q kl.length qd := by
  obtain ⟨P, pd, e1, _⟩ := row_form h.on.p
  obtain ⟨Q, qd, e2, _⟩ := row_form h.on.q
  exact ⟨P, pd, Q, qd, e1, e2⟩

set_option linter.unusedVariables false in
set_option maxHeartbeats 3200000 in
set_option maxRecDepth 100000 in
theorem into_form (w0 : World) (r B g L : Nat) (op : List ND) (nm : ByteArray) (ps : List PR) (kl : List KD) (p q : Value) (kd : Int) (tn tv : ByteArray) (A : Option Addr) (cap : Nat) (l : List TK) (ns pn : Nat) (w : World) (hop : op.length + 1 = L) (hL : L ≤ 8) (hns : ns ≤ 64) (hpn : pn ≤ 256) (hps : ps.length ≤ pn) (hkl : kl.length ≤ ns)
    (h1 : kd ≠ 1) (h2 : kd ≠ 2) (h3 : kd ≠ 3) (h4 : kd ≠ 4) (hR : RdrT w0 w r A cap l ns pn) (hb0 : Below w0.heap.size w0 w) (hV : NodeV w B g ⟨nm, ps, kl, p, q⟩) (hrB : r < B) :
    Calls Tryz.prog 106 #[.pointer (some ⟨r, 0, none⟩), .pointer (some ⟨g, 0, none⟩), .agg #[.int .i64 kd, .string tn, .string tv], .int .i64 (L : Int)] w fun e w' => IntoPost w0 w r B g ⟨nm, ps, kl, p, q⟩ op ⟨kd, tn, tv⟩ l ns pn e w' := by
  obtain ⟨P, pd, Q, qd, rfl, rfl⟩ := nv_q hV
  obtain ⟨X, hX⟩ : ∃ X : ON, X = ⟨nm, ps, kl, .slice P ps.length pd, .slice Q kl.length qd⟩ := ⟨_, rfl⟩
  rw [← hX]
  have HX := Lib.hid hX
  clear hX
  obtain ⟨W1, hW1⟩ : ∃ W1, W1 = w.alloc (.cells (tkC ⟨kd, tn, tv⟩) 116) := ⟨_, rfl⟩
  obtain ⟨g6, hg6⟩ : ∃ g6, g6 = w.heap.size := ⟨_, rfl⟩
  have hB1 : Below w.heap.size w W1 := by rw [hW1]; exact (Below.refl _ _).alloc (Nat.le_refl _) _
  have hA6 : Arr W1 g6 116 (tkC ⟨kd, tn, tv⟩) := by rw [hW1, hg6]; exact Arr.new w _ _
  have HV := Lib.hid (hV.below hB1)
  have HR := Lib.hid (hR.kept (Moved.of_below hB1 (fun _ => False)) id)
  have HM := Lib.hid (Moved.of_below hB1 (fun k => k = r ∨ B ≤ k))
  have HB0 := Lib.hid (hb0.trans (hB1.mono hb0.size))
  have HA6 := Lib.hid hA6
  have HOP := Lib.hid hop
  have HG6 : Hid (r < g6 ∧ g < g6) := ⟨by rw [hg6]; exact hR.arr.lt, by rw [hg6]; exact hV.arr.lt⟩
  have HZ : Hid (w.heap.size ≤ W1.heap.size) := hB1.size
  have t0 : W1.cell? ⟨g6, 0, none⟩ = some (.int .i64 kd) := hA6.cell 0
  have t1 : W1.cell? ⟨g6, 1, none⟩ = some (.string tn) := hA6.cell 1
  have t2 : W1.cell? ⟨g6, 2, none⟩ = some (.string tv) := hA6.cell 2
  clear hV hR hB1 hA6 hb0 hop
  have HF : Hid (finB (runB (stB (op ++ [X.nd]) ns pn) (⟨kd, tn, tv⟩ :: l)) = (nd0, 6)) := fin_err (take_form op X.nd ns pn ⟨kd, tn, tv⟩ h1 h2 h3 h4)
  have d1 : (kd == 1) = false := by simpa using h1
  have d3 : (kd == 3) = false := by simpa using h3
  clear h1 h2 h3 h4
  go_enter Tryz.func106, Tryz.ntmps106
  go_upto_region 1 with fail
  change Code.wp _ _ _ _ (w.alloc (.cells (tkC ⟨kd, tn, tv⟩) 116))
  rw [← hW1, ← hg6]
  clear hW1 hg6
  go_wp2
  go_ret
  exact ⟨HM.out, .inr ⟨6, rfl, by decide, HF.out⟩⟩

set_option linter.unusedVariables false in
set_option maxHeartbeats 3200000 in
set_option maxRecDepth 100000 in
theorem into_late (w0 : World) (r B g L : Nat) (op : List ND) (nm : ByteArray) (ps : List PR) (kl : List KD) (p q : Value) (kd : Int) (tn tv : ByteArray) (A : Option Addr) (cap : Nat) (l : List TK) (ns pn : Nat) (w : World) (hop : op.length + 1 = L) (hL : L ≤ 8) (hns : ns ≤ 64) (hpn : pn ≤ 256) (hps : ps.length ≤ pn) (hkl : kl.length ≤ ns)
    (h3 : kd = 3) (hk0 : kl ≠ []) (hR : RdrT w0 w r A cap l ns pn) (hb0 : Below w0.heap.size w0 w) (hV : NodeV w B g ⟨nm, ps, kl, p, q⟩) (hrB : r < B) :
    Calls Tryz.prog 106 #[.pointer (some ⟨r, 0, none⟩), .pointer (some ⟨g, 0, none⟩), .agg #[.int .i64 kd, .string tn, .string tv], .int .i64 (L : Int)] w fun e w' => IntoPost w0 w r B g ⟨nm, ps, kl, p, q⟩ op ⟨kd, tn, tv⟩ l ns pn e w' := by
  obtain ⟨P, pd, Q, qd, rfl, rfl⟩ := nv_q hV
  obtain ⟨X, hX⟩ : ∃ X : ON, X = ⟨nm, ps, kl, .slice P ps.length pd, .slice Q kl.length qd⟩ := ⟨_, rfl⟩
  rw [← hX]
  have HX := Lib.hid hX
  clear hX
  obtain ⟨W1, hW1⟩ : ∃ W1, W1 = w.alloc (.cells (tkC ⟨kd, tn, tv⟩) 116) := ⟨_, rfl⟩
  obtain ⟨g6, hg6⟩ : ∃ g6, g6 = w.heap.size := ⟨_, rfl⟩
  have hB1 : Below w.heap.size w W1 := by rw [hW1]; exact (Below.refl _ _).alloc (Nat.le_refl _) _
  have hA6 : Arr W1 g6 116 (tkC ⟨kd, tn, tv⟩) := by rw [hW1, hg6]; exact Arr.new w _ _
  have HV := Lib.hid (hV.below hB1)
  have HR := Lib.hid (hR.kept (Moved.of_below hB1 (fun _ => False)) id)
  have HM := Lib.hid (Moved.of_below hB1 (fun k => k = r ∨ B ≤ k))
  have HB0 := Lib.hid (hb0.trans (hB1.mono hb0.size))
  have HA6 := Lib.hid hA6
  have HOP := Lib.hid hop
  have HG6 : Hid (r < g6 ∧ g < g6) := ⟨by rw [hg6]; exact hR.arr.lt, by rw [hg6]; exact hV.arr.lt⟩
  have HZ : Hid (w.heap.size ≤ W1.heap.size) := hB1.size
  have t0 : W1.cell? ⟨g6, 0, none⟩ = some (.int .i64 kd) := hA6.cell 0
  have t1 : W1.cell? ⟨g6, 1, none⟩ = some (.string tn) := hA6.cell 1
  have t2 : W1.cell? ⟨g6, 2, none⟩ = some (.string tv) := hA6.cell 2
  clear hV hR hB1 hA6 hb0 hop
  subst h3
  have hp : 0 < kl.length := by
    rcases kl with _ | _
    · exact absurd rfl hk0
    · exact Nat.succ_pos _
  have HF : Hid (finB (runB (stB (op ++ [X.nd]) ns pn) (⟨3, tn, tv⟩ :: l)) = (nd0, 6)) := fin_err (take_late op X.nd ns pn ⟨3, tn, tv⟩ rfl (by
    rw [HX.out]
    show kl.map KD.nd ≠ []
    intro e
    exact hk0 (List.map_eq_nil_iff.1 e)))
  have hp0 : (0 : Int) < (kl.length : Int) := by omega
  have g2 : W1.cell? ⟨g, 2, none⟩ = some (.slice Q kl.length qd) := by
    have := HV.out.arr.cell 2
    exact this
  clear hp hk0
  go_enter Tryz.func106, Tryz.ntmps106
  go_upto_region 1 with fail
  change Code.wp _ _ _ _ (w.alloc (.cells (tkC ⟨3, tn, tv⟩) 116))
  rw [← hW1, ← hg6]
  clear hW1 hg6
  go_wp2
  go_ret
  exact ⟨HM.out, .inr ⟨6, rfl, by decide, HF.out⟩⟩

set_option linter.unusedVariables false in
set_option maxHeartbeats 3200000 in
set_option maxRecDepth 100000 in
theorem into_full (w0 : World) (r B g L : Nat) (op : List ND) (nm : ByteArray) (ps : List PR) (kl : List KD) (p q : Value) (kd : Int) (tn tv : ByteArray) (A : Option Addr) (cap : Nat) (l : List TK) (ns pn : Nat) (w : World) (hop : op.length + 1 = L) (hL : L ≤ 8) (hns : ns ≤ 64) (hpn : pn ≤ 256) (hps : ps.length ≤ pn) (hkl : kl.length ≤ ns)
    (h3 : kd = 3) (hk0 : kl = []) (hp6 : pn = 256) (hR : RdrT w0 w r A cap l ns pn) (hb0 : Below w0.heap.size w0 w) (hV : NodeV w B g ⟨nm, ps, kl, p, q⟩) (hrB : r < B) :
    Calls Tryz.prog 106 #[.pointer (some ⟨r, 0, none⟩), .pointer (some ⟨g, 0, none⟩), .agg #[.int .i64 kd, .string tn, .string tv], .int .i64 (L : Int)] w fun e w' => IntoPost w0 w r B g ⟨nm, ps, kl, p, q⟩ op ⟨kd, tn, tv⟩ l ns pn e w' := by
  obtain ⟨P, pd, Q, qd, rfl, rfl⟩ := nv_q hV
  obtain ⟨X, hX⟩ : ∃ X : ON, X = ⟨nm, ps, kl, .slice P ps.length pd, .slice Q kl.length qd⟩ := ⟨_, rfl⟩
  rw [← hX]
  have HX := Lib.hid hX
  clear hX
  obtain ⟨W1, hW1⟩ : ∃ W1, W1 = w.alloc (.cells (tkC ⟨kd, tn, tv⟩) 116) := ⟨_, rfl⟩
  obtain ⟨g6, hg6⟩ : ∃ g6, g6 = w.heap.size := ⟨_, rfl⟩
  have hB1 : Below w.heap.size w W1 := by rw [hW1]; exact (Below.refl _ _).alloc (Nat.le_refl _) _
  have hA6 : Arr W1 g6 116 (tkC ⟨kd, tn, tv⟩) := by rw [hW1, hg6]; exact Arr.new w _ _
  have HV := Lib.hid (hV.below hB1)
  have HR := Lib.hid (hR.kept (Moved.of_below hB1 (fun _ => False)) id)
  have HM := Lib.hid (Moved.of_below hB1 (fun k => k = r ∨ B ≤ k))
  have HB0 := Lib.hid (hb0.trans (hB1.mono hb0.size))
  have HA6 := Lib.hid hA6
  have HOP := Lib.hid hop
  have HG6 : Hid (r < g6 ∧ g < g6) := ⟨by rw [hg6]; exact hR.arr.lt, by rw [hg6]; exact hV.arr.lt⟩
  have HZ : Hid (w.heap.size ≤ W1.heap.size) := hB1.size
  have t0 : W1.cell? ⟨g6, 0, none⟩ = some (.int .i64 kd) := hA6.cell 0
  have t1 : W1.cell? ⟨g6, 1, none⟩ = some (.string tn) := hA6.cell 1
  have t2 : W1.cell? ⟨g6, 2, none⟩ = some (.string tv) := hA6.cell 2
  clear hV hR hB1 hA6 hb0 hop
  subst h3
  subst hk0
  have HF : Hid (finB (runB (stB (op ++ [X.nd]) ns pn) (⟨3, tn, tv⟩ :: l)) = (nd0, 7)) := fin_err (take_full op X.nd ns pn ⟨3, tn, tv⟩ rfl (by rw [HX.out]; rfl) hp6)
  have d6 : (256 : Int) < (pn : Int) + 1 := by omega
  clear hp6
  have g2 : W1.cell? ⟨g, 2, none⟩ = some (.slice Q 0 qd) := by
    have := HV.out.arr.cell 2
    exact this
  have c2 : W1.cell? ⟨r, 2, none⟩ = some (.int .i64 (pn : Int)) := HR.out.arr.cell 2
  have f2 := HR.out.arr.frozen 2
  have hrl := HR.out.arr.lt
  have hW41 : Moved W1 (W1.setCell ⟨r, 2, none⟩ (.int .i64 ((pn : Int) + 1))) (fun k => k = r) (fun k => k = r) := Moved.grown (gr_cell W1 r 2 _) (fun k hk => by injection hk with hk; exact hk.symm) (fun k hk => .inl hk)
  have HR4 : Hid (RdrT w0 (W1.setCell ⟨r, 2, none⟩ (.int .i64 ((pn : Int) + 1))) r A cap l ns (pn + 1)) := ⟨HR.out.arr.put 2 _, HR.out.rd, HR.out.le, HR.out.mx, HR.out.lo⟩
  have HV4 := Lib.hid (HV.out.apart hW41 (fun k hk => by rw [hk]; exact hrB))
  have HM4 := Lib.hid (HM.out.trans (hW41.wide (fun k hk => .inl hk)))
  have HA64 := Lib.hid (HA6.out.far (Nat.ne_of_lt HG6.out.1).symm (.int .i64 ((pn : Int) + 1)) (j := 2))
  clear hW41
  go_enter Tryz.func106, Tryz.ntmps106
  go_upto_region 1 with fail
  change Code.wp _ _ _ _ (w.alloc (.cells (tkC ⟨3, tn, tv⟩) 116))
  rw [← hW1, ← hg6]
  clear hW1 hg6
  go_upto_region 12 with fail
  clear g2 c2 f2 hrl t0 t1 t2 HR HV HM HA6
  generalize W1.setCell ⟨r, 2, none⟩ (.int .i64 ((pn : Int) + 1)) = W4 at *
  have c2 : W4.cell? ⟨r, 2, none⟩ = some (.int .i64 ((pn : Int) + 1)) := by have := HR4.out.arr.cell 2; simpa using this
  go_wp2
  go_ret
  exact ⟨HM4.out, .inr ⟨7, rfl, by decide, HF.out⟩⟩

set_option linter.unusedVariables false in
set_option maxHeartbeats 3200000 in
set_option maxRecDepth 100000 in
theorem into_prop (w0 : World) (r B g L : Nat) (op : List ND) (nm : ByteArray) (ps : List PR) (kl : List KD) (p q : Value) (kd : Int) (tn tv : ByteArray) (A : Option Addr) (cap : Nat) (l : List TK) (ns pn : Nat) (w : World) (hop : op.length + 1 = L) (hL : L ≤ 8) (hns : ns ≤ 64) (hpn : pn ≤ 256) (hps : ps.length ≤ pn) (hkl : kl.length ≤ ns)
    (h3 : kd = 3) (hk0 : kl = []) (hp6 : pn ≠ 256) (hR : RdrT w0 w r A cap l ns pn) (hb0 : Below w0.heap.size w0 w) (hV : NodeV w B g ⟨nm, ps, kl, p, q⟩) (hrB : r < B) :
    Calls Tryz.prog 106 #[.pointer (some ⟨r, 0, none⟩), .pointer (some ⟨g, 0, none⟩), .agg #[.int .i64 kd, .string tn, .string tv], .int .i64 (L : Int)] w fun e w' => IntoPost w0 w r B g ⟨nm, ps, kl, p, q⟩ op ⟨kd, tn, tv⟩ l ns pn e w' := by
  obtain ⟨P, pd, Q, qd, rfl, rfl⟩ := nv_q hV
  obtain ⟨X, hX⟩ : ∃ X : ON, X = ⟨nm, ps, kl, .slice P ps.length pd, .slice Q kl.length qd⟩ := ⟨_, rfl⟩
  rw [← hX]
  have HX := Lib.hid hX
  clear hX
  obtain ⟨W1, hW1⟩ : ∃ W1, W1 = w.alloc (.cells (tkC ⟨kd, tn, tv⟩) 116) := ⟨_, rfl⟩
  obtain ⟨g6, hg6⟩ : ∃ g6, g6 = w.heap.size := ⟨_, rfl⟩
  have hB1 : Below w.heap.size w W1 := by rw [hW1]; exact (Below.refl _ _).alloc (Nat.le_refl _) _
  have hA6 : Arr W1 g6 116 (tkC ⟨kd, tn, tv⟩) := by rw [hW1, hg6]; exact Arr.new w _ _
  have HV := Lib.hid (hV.below hB1)
  have HR := Lib.hid (hR.kept (Moved.of_below hB1 (fun _ => False)) id)
  have HM := Lib.hid (Moved.of_below hB1 (fun k => k = r ∨ B ≤ k))
  have HB0 := Lib.hid (hb0.trans (hB1.mono hb0.size))
  have HA6 := Lib.hid hA6
  have HOP := Lib.hid hop
  have HG6 : Hid (r < g6 ∧ g < g6) := ⟨by rw [hg6]; exact hR.arr.lt, by rw [hg6]; exact hV.arr.lt⟩
  have HZ : Hid (w.heap.size ≤ W1.heap.size) := hB1.size
  have t0 : W1.cell? ⟨g6, 0, none⟩ = some (.int .i64 kd) := hA6.cell 0
  have t1 : W1.cell? ⟨g6, 1, none⟩ = some (.string tn) := hA6.cell 1
  have t2 : W1.cell? ⟨g6, 2, none⟩ = some (.string tv) := hA6.cell 2
  clear hV hR hB1 hA6 hb0 hop
  subst h3
  subst hk0
  have d6 : (pn : Int) + 1 ≤ 256 := by omega
  have g2 : W1.cell? ⟨g, 2, none⟩ = some (.slice Q 0 qd) := by
    have := HV.out.arr.cell 2
    exact this
  have c2 : W1.cell? ⟨r, 2, none⟩ = some (.int .i64 (pn : Int)) := HR.out.arr.cell 2
  have f2 := HR.out.arr.frozen 2
  have hrl := HR.out.arr.lt
  have hW41 : Moved W1 (W1.setCell ⟨r, 2, none⟩ (.int .i64 ((pn : Int) + 1))) (fun k => k = r) (fun k => k = r) := Moved.grown (gr_cell W1 r 2 _) (fun k hk => by injection hk with hk; exact hk.symm) (fun k hk => .inl hk)
  have HR4 : Hid (RdrT w0 (W1.setCell ⟨r, 2, none⟩ (.int .i64 ((pn : Int) + 1))) r A cap l ns (pn + 1)) := ⟨HR.out.arr.put 2 _, HR.out.rd, HR.out.le, HR.out.mx, HR.out.lo⟩
  have HV4 := Lib.hid (HV.out.apart hW41 (fun k hk => by rw [hk]; exact hrB))
  have HM4 := Lib.hid (HM.out.trans (hW41.wide (fun k hk => .inl hk)))
  have HA64 := Lib.hid (HA6.out.far (Nat.ne_of_lt HG6.out.1).symm (.int .i64 ((pn : Int) + 1)) (j := 2))
  clear hW41
  go_enter Tryz.func106, Tryz.ntmps106
  go_upto_region 1 with fail
  change Code.wp _ _ _ _ (w.alloc (.cells (tkC ⟨3, tn, tv⟩) 116))
  rw [← hW1, ← hg6]
  clear hW1 hg6
  go_upto_region 12 with fail
  clear g2 c2 f2 hrl t0 t1 t2 HR HV HM HA6
  generalize W1.setCell ⟨r, 2, none⟩ (.int .i64 ((pn : Int) + 1)) = W4 at *
  have c2 : W4.cell? ⟨r, 2, none⟩ = some (.int .i64 ((pn : Int) + 1)) := by have := HR4.out.arr.cell 2; simpa using this
  have t1 : W4.cell? ⟨g6, 1, none⟩ = some (.string tn) := HA64.out.cell 1
  have t2 : W4.cell? ⟨g6, 2, none⟩ = some (.string tv) := HA64.out.cell 2
  go_upto_region 14 with fail
  have HEL := Lib.hid elemProp
  have hba : Below W4.heap.size W4 (W4.alloc (.cells #[.string tn, .string tv] 92)).drew := ((Below.refl _ _).alloc (Nat.le_refl _) _).drew
  have HVA := Lib.hid (HV4.out.below hba)
  have HA6A := Lib.hid (HA64.out.below hba HA64.out.lt)
  have HRA := Lib.hid (HR4.out.kept (Moved.of_below hba (fun _ => False)) id)
  have HMA := Lib.hid (HM4.out.trans (Moved.of_below hba _))
  have HNEW : Hid (Arr (W4.alloc (.cells #[.string tn, .string tv] 92)).drew W4.heap.size 92 #[.string tn, .string tv]) := Arr.new W4 _ _
  have HROW : Hid ((W4.alloc (.cells #[.string tn, .string tv] 92)).drew.ownsRow B 92 2 (.slice P ps.length pd) ps.length (prL ps)) := by
    have := HVA.out.on.p
    exact this
  have HSZ : Hid (B ≤ (W4.alloc (.cells #[.string tn, .string tv] 92)).drew.heap.size) := Nat.le_trans HVA.out.gB (Nat.le_of_lt HVA.out.arr.lt)
  have HPO : Hid (∀ u ∈ (#[.string tn, .string tv] : Array Value).toList, u.oneCell' = true) := fun u hu => by
    simp at hu
    rcases hu with rfl | rfl <;> rfl
  have p1 : W4.cell? ⟨g, 1, none⟩ = some (.slice P ps.length pd) := by
    have := HV4.out.arr.cell 1
    exact this
  have pA : (W4.alloc (.cells #[.string tn, .string tv] 92)).drew.cell? ⟨g, 1, none⟩ = some (.slice P ps.length pd) := by
    have := HVA.out.arr.cell 1
    exact this
  have HS0 : Hid (W4.drew.cell? ⟨g6, 1, none⟩ = some (.string tn) ∧ W4.drew.cell? ⟨g6, 2, none⟩ = some (.string tv)) := ⟨HA64.out.cell 1, HA64.out.cell 2⟩
  have HSA : Hid ((W4.alloc (.cells #[.string tn, .string tv] 92)).drew.cell? ⟨g6, 1, none⟩ = some (.string tn) ∧ (W4.alloc (.cells #[.string tn, .string tv] 92)).drew.cell? ⟨g6, 2, none⟩ = some (.string tv)) := ⟨HA6A.out.cell 1, HA6A.out.cell 2⟩
  have hg6g : g ≠ g6 := Nat.ne_of_lt HG6.out.2
  have HS7 : Hid (∀ (w' : World) v, (w'.cell? ⟨g6, 1, none⟩ = some (.string tn) ∧ w'.cell? ⟨g6, 2, none⟩ = some (.string tv)) → ((w'.setCell ⟨g, 1, none⟩ v).cell? ⟨g6, 1, none⟩ = some (.string tn) ∧ (w'.setCell ⟨g, 1, none⟩ v).cell? ⟨g6, 2, none⟩ = some (.string tv))) := fun w' v ⟨e1, e2⟩ => ⟨(World.cell?_setCell_far _ _ _ _ hg6g).trans e1, (World.cell?_setCell_far _ _ _ _ hg6g).trans e2⟩
  have HF5 : Hid (∀ g5 cap5 w5, w5.ownsRow B 92 2 (.slice (some ⟨g5, 0, none⟩) (ps.length + 1) cap5) (ps.length + 1) (prL ps ++ (#[.string tn, .string tv] : Array Value).toList) → (W4.alloc (.cells #[.string tn, .string tv] 92)).drew.grownBy w5 (Value.ownBlock (.slice P ps.length pd)) → (Value.ownBlock (.slice P ps.length pd) = some g5 ∨ g5 = (W4.alloc (.cells #[.string tn, .string tv] 92)).drew.heap.size) →
      (w5.cell? ⟨g6, 1, none⟩ = some (.string tn) ∧ w5.cell? ⟨g6, 2, none⟩ = some (.string tv)) ∧ w5.cell? ⟨g, 1, none⟩ = some (.slice P ps.length pd) ∧ w5.frozen? ⟨g, 1, none⟩ = false ∧ IntoPost w0 w r B g X op ⟨3, tn, tv⟩ l ns pn (.returned (.int .i64 0)) (w5.setCell ⟨g, 1, none⟩ (.slice (some ⟨g5, 0, none⟩) (ps.length + 1) cap5))) := by
    intro g5 cap5 w5 q1 q2 q3
    have hV := HVA.out
    have h6 : some g6 ≠ Value.ownBlock (.slice P ps.length pd) := ow_arr HA6A.out HROW.out (by decide)
    have hA65 := HA6A.out.gr q2 h6
    have hg : some g ≠ Value.ownBlock (.slice P ps.length pd) := ow_arr hV.arr hV.on.p (by decide)
    have hA5 := hV.arr.gr q2 hg
    have hg5 : g5 ≠ g := by
      rintro rfl
      exact ow_arr hA5 q1 (by decide) rfl
    have m1 : Moved (W4.alloc (.cells #[.string tn, .string tv] 92)).drew w5 (fun k => k = g ∨ ownS (.slice P ps.length pd) k) (fun k => k = g ∨ ownS (.slice (some ⟨g5, 0, none⟩) (ps.length + 1) cap5) k) := Moved.grown q2 (fun k hk => .inr hk) (fun k hk => by
      rcases hk with hk | hk
      · exact .inl (.inl hk)
      · exact (ownS_lies (n := ps.length + 1) (cap := cap5) q3 k hk).imp .inr id)
    have m2 : Moved w5 (w5.setCell ⟨g, 1, none⟩ (.slice (some ⟨g5, 0, none⟩) (ps.length + 1) cap5)) (fun k => k = g ∨ ownS (.slice (some ⟨g5, 0, none⟩) (ps.length + 1) cap5) k) (fun k => k = g ∨ ownS (.slice (some ⟨g5, 0, none⟩) (ps.length + 1) cap5) k) := Moved.grown (gr_cell w5 g 1 _) (fun k hk => by injection hk with hk; exact .inl hk.symm) (fun k hk => .inl hk)
    have hq5 := q1.kept (w' := (w5.setCell ⟨g, 1, none⟩ (.slice (some ⟨g5, 0, none⟩) (ps.length + 1) cap5))) (gr_cell w5 g 1 _) (.inr fun e => hg5 (by injection e))
    have hnv := nv_prop hV ⟨tn, tv⟩ (p' := (.slice (some ⟨g5, 0, none⟩) (ps.length + 1) cap5)) (w' := (w5.setCell ⟨g, 1, none⟩ (.slice (some ⟨g5, 0, none⟩) (ps.length + 1) cap5))) (hA5.put 1 _) (by rw [prL_app]; exact hq5) (m1.trans m2)
    refine ⟨⟨hA65.cell 1, hA65.cell 2⟩, hA5.cell 1, hA5.frozen 1, HMA.out.trans (hnv.2.wide fun k hk => .inr (hV.low hk)), .inl ⟨_, A, cap, l, ns, pn + 1, rfl, .inr rfl, hnv.1, HRA.out.kept hnv.2 (fun hf => by have := hV.low hf; omega), Nat.le_refl _, hns, Nat.le_succ _, by omega, ?_, ?_, Nat.le_refl _, ?_⟩⟩
    · show (ps ++ [_]).length ≤ pn + 1
      rw [List.length_append]; simp only [List.length_cons, List.length_nil]; omega
    · exact Nat.zero_le _
    · rw [fin_ok (take_more op X.nd ns pn ⟨3, tn, tv⟩ rfl (by rw [HX.out]; rfl) hp6), HX.out]; rfl
  clear HVA HA6A HRA HMA hba
  clear t1 t2 c2
  refine wp_region_held_drew (S := fun (w' : World) => w'.cell? ⟨g6, 1, none⟩ = some (.string tn) ∧ w'.cell? ⟨g6, 2, none⟩ = some (.string tv)) (by kernel_rfl) (by (first | exact HS0.out | exact HSA.out | assumption | exact HS7.out _ _ (by assumption))) (fun hHeld => ?_)
  refine takeH 0 58 rfl rfl (v := ?_) (by kernel_rfl) (by kernel_rfl) (by kernel_rfl) (fun _ _ _ h => h) (Or.inl ⟨by rfl, ?_⟩) hHeld ?_
  rotate_left 1
  · (intro w hSw; (try dsimp only at hSw); go_simp; try (with_reducible rfl))
  (try simp only [Act.put]); (try simp only [List.setIfInBounds_toArray]); (try simp only [List.set_cons_succ]); (try simp only [List.set_cons_zero])
  refine takeH 1 59 rfl rfl (v := ?_) (by kernel_rfl) (by kernel_rfl) (by kernel_rfl) (fun _ _ _ h => h) (Or.inl ⟨by rfl, ?_⟩) hHeld ?_
  rotate_left 1
  · (intro w hSw; (try dsimp only at hSw); go_simp; try (with_reducible rfl))
  (try simp only [Act.put]); (try simp only [List.setIfInBounds_toArray]); (try simp only [List.set_cons_succ]); (try simp only [List.set_cons_zero])
  refine takeH 2 60 rfl rfl (v := ?_) (by kernel_rfl) (by kernel_rfl) (by kernel_rfl) (fun _ _ _ h => h) (Or.inl ⟨by rfl, ?_⟩) hHeld ?_
  rotate_left 1
  · (intro w hSw; (try dsimp only at hSw); go_simp; try (with_reducible rfl))
  (try simp only [Act.put]); (try simp only [List.setIfInBounds_toArray]); (try simp only [List.set_cons_succ]); (try simp only [List.set_cons_zero])
  refine takeH 3 61 rfl rfl (v := ?_) (by kernel_rfl) (by kernel_rfl) (by kernel_rfl) (fun _ _ _ h => h) (Or.inl ⟨by rfl, ?_⟩) hHeld ?_
  rotate_left 1
  · (intro w hSw; (try dsimp only at hSw); go_simp; try (with_reducible rfl))
  (try simp only [Act.put]); (try simp only [List.setIfInBounds_toArray]); (try simp only [List.set_cons_succ]); (try simp only [List.set_cons_zero])
  refine takeH 5 63 rfl rfl (v := ?_) (by kernel_rfl) (by kernel_rfl) (by kernel_rfl) (fun _ _ _ h => h) (Or.inl ⟨by rfl, ?_⟩) hHeld ?_
  rotate_left 1
  · (intro w hSw; (try dsimp only at hSw); go_simp; try (with_reducible rfl))
  (try simp only [Act.put]); (try simp only [List.setIfInBounds_toArray]); (try simp only [List.set_cons_succ]); (try simp only [List.set_cons_zero])
  refine takeH 6 64 rfl rfl (v := ?_) (by kernel_rfl) (by kernel_rfl) (by kernel_rfl) (fun _ _ _ h => h) (Or.inl ⟨by rfl, ?_⟩) hHeld ?_
  rotate_left 1
  · (intro w hSw; (try dsimp only at hSw); go_simp; try (with_reducible rfl))
  (try simp only [Act.put]); (try simp only [List.setIfInBounds_toArray]); (try simp only [List.set_cons_succ]); (try simp only [List.set_cons_zero])
  refine takeH 7 65 rfl rfl (v := ?_) (by kernel_rfl) (by kernel_rfl) (by kernel_rfl) (fun _ _ _ h => h) (Or.inl ⟨by rfl, ?_⟩) hHeld ?_
  rotate_left 1
  · (intro w hSw; (try dsimp only at hSw); go_simp; try (with_reducible rfl))
  (try simp only [Act.put]); (try simp only [List.setIfInBounds_toArray]); (try simp only [List.set_cons_succ]); (try simp only [List.set_cons_zero])
  refine takeH 8 66 rfl rfl (v := ?_) (by kernel_rfl) (by kernel_rfl) (by kernel_rfl) (fun _ _ _ h => h) (Or.inl ⟨by rfl, ?_⟩) hHeld ?_
  rotate_left 1
  · (intro w hSw; (try dsimp only at hSw); go_simp; try (with_reducible rfl))
  (try simp only [Act.put]); (try simp only [List.setIfInBounds_toArray]); (try simp only [List.set_cons_succ]); (try simp only [List.set_cons_zero])
  refine takeH 9 67 rfl rfl (v := ?_) (by kernel_rfl) (by kernel_rfl) (by kernel_rfl) (fun _ _ _ h => h) (Or.inl ⟨by rfl, ?_⟩) hHeld ?_
  rotate_left 1
  · (intro w hSw; (try dsimp only at hSw); go_simp; try (with_reducible rfl))
  (try simp only [Act.put]); (try simp only [List.setIfInBounds_toArray]); (try simp only [List.set_cons_succ]); (try simp only [List.set_cons_zero])
  refine wpAnyH_ready (rs := [4, 10]) (by kernel_rfl) (by simp) (AllReadyH.cons rfl (fun K hK => ?_) (AllReadyH.cons rfl (fun K hK => ?_) AllReadyH.nil))
  · go_simp
    refine hK.out _ _ (by (first | exact HS0.out | exact HSA.out | assumption | exact HS7.out _ _ (by assumption))) (fun hHeld => ?_)
    clear hK K
    (try simp only [Act.put]); (try simp only [List.setIfInBounds_toArray]); (try simp only [List.set_cons_succ]); (try simp only [List.set_cons_zero])
    refine wpAnyH_ready (rs := [10]) (by kernel_rfl) (by simp) (AllReadyH.cons rfl (fun K hK => ?_) AllReadyH.nil)
    go_simp
    refine hK.out _ _ (by (first | exact HS0.out | exact HSA.out | assumption | exact HS7.out _ _ (by assumption))) (fun hHeld => ?_)
    clear hK K
    (try simp only [Act.put]); (try simp only [List.setIfInBounds_toArray]); (try simp only [List.set_cons_succ]); (try simp only [List.set_cons_zero])
    refine wpAnyH_ready (rs := [11]) (by kernel_rfl) (by simp) (AllReadyH.cons rfl (fun K hK => ?_) AllReadyH.nil)
    refine step_append_at (by rfl) _ _ _ (by rfl) 92 2 32 HEL B (.slice P ps.length pd) ps.length (prL ps) (by rfl) HROW.out W4.heap.size #[.string tn, .string tv] HNEW.out rfl HPO.out (by rfl) (by unfold maxLen; omega) (by omega) HSZ.out ?_
    intro g5 cap5 w5 q1 q2 q3 q4
    obtain ⟨hs5, y1, y2, y3⟩ := HF5.out g5 cap5 w5 q1 q2 q3
    (try dsimp only)
    refine hK.out _ _ (by (first | exact HS0.out | exact HSA.out | assumption | exact HS7.out _ _ (by assumption))) (fun hHeld => ?_)
    clear hK K
    (try simp only [Act.put]); (try simp only [List.setIfInBounds_toArray]); (try simp only [List.set_cons_succ]); (try simp only [List.set_cons_zero])
    refine takeH 12 70 rfl rfl (v := ?_) (by kernel_rfl) (by kernel_rfl) (by kernel_rfl) (fun _ _ _ h => h) (Or.inl ⟨by rfl, ?_⟩) hHeld ?_
    rotate_left 1
    · (intro w hSw; (try dsimp only at hSw); go_simp; try (with_reducible rfl))
    (try simp only [Act.put]); (try simp only [List.setIfInBounds_toArray]); (try simp only [List.set_cons_succ]); (try simp only [List.set_cons_zero])
    refine takeH 13 71 rfl rfl (v := ?_) (by kernel_rfl) (by kernel_rfl) (by kernel_rfl) (fun _ _ _ h => h) (Or.inl ⟨by rfl, ?_⟩) hHeld ?_
    rotate_left 1
    · (intro w hSw; (try dsimp only at hSw); go_simp; try (with_reducible rfl))
    (try simp only [Act.put]); (try simp only [List.setIfInBounds_toArray]); (try simp only [List.set_cons_succ]); (try simp only [List.set_cons_zero])
    refine wpAnyH_ready (rs := [14]) (by kernel_rfl) (by simp) (AllReadyH.cons rfl (fun K hK => ?_) AllReadyH.nil)
    go_simp
    refine hK.out _ _ (by (first | exact HS0.out | exact HSA.out | assumption | exact HS7.out _ _ (by assumption))) (fun hHeld => ?_)
    clear hK K
    (try simp only [Act.put]); (try simp only [List.setIfInBounds_toArray]); (try simp only [List.set_cons_succ]); (try simp only [List.set_cons_zero])
    refine wpAnyH_done (by kernel_rfl) ?_ _
    have HE := Lib.hid y3
    clear y1 y2 y3 hs5 q1 q2 q3 q4 HF5 HNEW HROW HSZ HS0 HS7 hHeld HSA HPO HEL p1 pA
    go_wp2
    go_ret
    exact HE.out
  · go_simp
    refine hK.out _ _ (by (first | exact HS0.out | exact HSA.out | assumption | exact HS7.out _ _ (by assumption))) (fun hHeld => ?_)
    clear hK K
    (try simp only [Act.put]); (try simp only [List.setIfInBounds_toArray]); (try simp only [List.set_cons_succ]); (try simp only [List.set_cons_zero])
    refine wpAnyH_ready (rs := [4]) (by kernel_rfl) (by simp) (AllReadyH.cons rfl (fun K hK => ?_) AllReadyH.nil)
    go_simp
    refine hK.out _ _ (by (first | exact HS0.out | exact HSA.out | assumption | exact HS7.out _ _ (by assumption))) (fun hHeld => ?_)
    clear hK K
    (try simp only [Act.put]); (try simp only [List.setIfInBounds_toArray]); (try simp only [List.set_cons_succ]); (try simp only [List.set_cons_zero])
    refine wpAnyH_ready (rs := [11]) (by kernel_rfl) (by simp) (AllReadyH.cons rfl (fun K hK => ?_) AllReadyH.nil)
    refine step_append_at (by rfl) _ _ _ (by rfl) 92 2 32 HEL B (.slice P ps.length pd) ps.length (prL ps) (by rfl) HROW.out W4.heap.size #[.string tn, .string tv] HNEW.out rfl HPO.out (by rfl) (by unfold maxLen; omega) (by omega) HSZ.out ?_
    intro g5 cap5 w5 q1 q2 q3 q4
    obtain ⟨hs5, y1, y2, y3⟩ := HF5.out g5 cap5 w5 q1 q2 q3
    (try dsimp only)
    refine hK.out _ _ (by (first | exact HS0.out | exact HSA.out | assumption | exact HS7.out _ _ (by assumption))) (fun hHeld => ?_)
    clear hK K
    (try simp only [Act.put]); (try simp only [List.setIfInBounds_toArray]); (try simp only [List.set_cons_succ]); (try simp only [List.set_cons_zero])
    refine takeH 12 70 rfl rfl (v := ?_) (by kernel_rfl) (by kernel_rfl) (by kernel_rfl) (fun _ _ _ h => h) (Or.inl ⟨by rfl, ?_⟩) hHeld ?_
    rotate_left 1
    · (intro w hSw; (try dsimp only at hSw); go_simp; try (with_reducible rfl))
    (try simp only [Act.put]); (try simp only [List.setIfInBounds_toArray]); (try simp only [List.set_cons_succ]); (try simp only [List.set_cons_zero])
    refine takeH 13 71 rfl rfl (v := ?_) (by kernel_rfl) (by kernel_rfl) (by kernel_rfl) (fun _ _ _ h => h) (Or.inl ⟨by rfl, ?_⟩) hHeld ?_
    rotate_left 1
    · (intro w hSw; (try dsimp only at hSw); go_simp; try (with_reducible rfl))
    (try simp only [Act.put]); (try simp only [List.setIfInBounds_toArray]); (try simp only [List.set_cons_succ]); (try simp only [List.set_cons_zero])
    refine wpAnyH_ready (rs := [14]) (by kernel_rfl) (by simp) (AllReadyH.cons rfl (fun K hK => ?_) AllReadyH.nil)
    go_simp
    refine hK.out _ _ (by (first | exact HS0.out | exact HSA.out | assumption | exact HS7.out _ _ (by assumption))) (fun hHeld => ?_)
    clear hK K
    (try simp only [Act.put]); (try simp only [List.setIfInBounds_toArray]); (try simp only [List.set_cons_succ]); (try simp only [List.set_cons_zero])
    refine wpAnyH_done (by kernel_rfl) ?_ _
    have HE := Lib.hid y3
    clear y1 y2 y3 hs5 q1 q2 q3 q4 HF5 HNEW HROW HSZ HS0 HS7 hHeld HSA HPO HEL p1 pA
    go_wp2
    go_ret
    exact HE.out

set_option linter.unusedVariables false in
set_option maxHeartbeats 3200000 in
set_option maxRecDepth 100000 in
theorem into_kid (w0 : World) (r B g L : Nat) (hN : NodeOK w0 r (L + 1)) (op : List ND) (nm : ByteArray) (ps : List PR) (kl : List KD) (p q : Value) (kd : Int) (tn tv : ByteArray) (A : Option Addr) (cap : Nat) (l : List TK) (ns pn : Nat) (w : World) (hop : op.length + 1 = L) (hL : L ≤ 8) (hns : ns ≤ 64) (hpn : pn ≤ 256) (hps : ps.length ≤ pn) (hkl : kl.length ≤ ns)
    (h1 : kd = 1) (hR : RdrT w0 w r A cap l ns pn) (hb0 : Below w0.heap.size w0 w) (hV : NodeV w B g ⟨nm, ps, kl, p, q⟩) (hrB : r < B) :
    Calls Tryz.prog 106 #[.pointer (some ⟨r, 0, none⟩), .pointer (some ⟨g, 0, none⟩), .agg #[.int .i64 kd, .string tn, .string tv], .int .i64 (L : Int)] w fun e w' => IntoPost w0 w r B g ⟨nm, ps, kl, p, q⟩ op ⟨kd, tn, tv⟩ l ns pn e w' := by
  obtain ⟨P, pd, Q, qd, rfl, rfl⟩ := nv_q hV
  obtain ⟨X, hX⟩ : ∃ X : ON, X = ⟨nm, ps, kl, .slice P ps.length pd, .slice Q kl.length qd⟩ := ⟨_, rfl⟩
  rw [← hX]
  have HX := Lib.hid hX
  clear hX
  obtain ⟨W1, hW1⟩ : ∃ W1, W1 = w.alloc (.cells (tkC ⟨kd, tn, tv⟩) 116) := ⟨_, rfl⟩
  obtain ⟨g6, hg6⟩ : ∃ g6, g6 = w.heap.size := ⟨_, rfl⟩
  have hB1 : Below w.heap.size w W1 := by rw [hW1]; exact (Below.refl _ _).alloc (Nat.le_refl _) _
  have hA6 : Arr W1 g6 116 (tkC ⟨kd, tn, tv⟩) := by rw [hW1, hg6]; exact Arr.new w _ _
  have HV := Lib.hid (hV.below hB1)
  have HR := Lib.hid (hR.kept (Moved.of_below hB1 (fun _ => False)) id)
  have HM := Lib.hid (Moved.of_below hB1 (fun k => k = r ∨ B ≤ k))
  have HB0 := Lib.hid (hb0.trans (hB1.mono hb0.size))
  have HA6 := Lib.hid hA6
  have HOP := Lib.hid hop
  have HG6 : Hid (r < g6 ∧ g < g6) := ⟨by rw [hg6]; exact hR.arr.lt, by rw [hg6]; exact hV.arr.lt⟩
  have HZ : Hid (w.heap.size ≤ W1.heap.size) := hB1.size
  have t0 : W1.cell? ⟨g6, 0, none⟩ = some (.int .i64 kd) := hA6.cell 0
  have t1 : W1.cell? ⟨g6, 1, none⟩ = some (.string tn) := hA6.cell 1
  have t2 : W1.cell? ⟨g6, 2, none⟩ = some (.string tv) := hA6.cell 2
  clear hV hR hB1 hA6 hb0 hop
  subst h1
  have e1 : ((L + 1 : Nat) : Int) = (L : Int) + 1 := by omega
  have hC := hN (op ++ [X.nd]) tn tv A cap l ns pn W1 (by rw [List.length_append]; simp only [List.length_cons, List.length_nil]; have := HOP.out; omega) hns hpn HR.out HB0.out
  rw [e1] at hC
  have HC := Lib.hid hC
  clear hC e1
  go_enter Tryz.func106, Tryz.ntmps106
  go_upto_region 1 with fail
  change Code.wp _ _ _ _ (w.alloc (.cells (tkC ⟨1, tn, tv⟩) 116))
  rw [← hW1, ← hg6]
  clear hW1 hg6
  go_wp2_with fail
  refine HC.out.mono ?_
  rintro e w3 ⟨hm3, ⟨n, v2, v3, A3, cap3, l3, ns3, pn3, rfl, hn3, hR3, b1, b2, b3, b4, b5, hfe⟩ | ⟨er, rfl, her, hfe⟩⟩
  · obtain ⟨ua, ub, uc, ud, rfl, rfl, _⟩ := nd_shape hn3
    have hb9 : Below w3.heap.size w3 (w3.alloc (.cells #[.string n.nm, .slice ua n.ps.length uc, .slice ub n.ks.length ud] 28)) := (Below.refl _ _).alloc (Nat.le_refl _) _
    have HA9 := Lib.hid (Arr.new w3 28 #[.string n.nm, .slice ua n.ps.length uc, .slice ub n.ks.length ud])
    have HV9 := Lib.hid ((HV.out.apart hm3 (fun k hk => by rw [hk]; exact hrB)).below hb9)
    have HV3H : Hid (∀ k, fpN g ⟨nm, ps, kl, .slice P ps.length pd, .slice Q kl.length qd⟩ k → k < w3.heap.size) := fun k hk => (HV.out.apart hm3 (fun k hk => by rw [hk]; exact hrB)).high hk
    have HG9 : Hid (g < w3.heap.size) := HV3H.out g (.inl rfl)
    have HR9 := Lib.hid (hR3.kept (Moved.of_below hb9 (fun _ => False)) id)
    have HM9 := Lib.hid ((HM.out.trans (hm3.wide (fun k hk => .inl hk))).trans (Moved.of_below hb9 _))
    have HK9 : Hid (NdAt (w3.alloc (.cells #[.string n.nm, .slice ua n.ps.length uc, .slice ub n.ks.length ud] 28)) (fun k => B ≤ k ∧ ¬ fpN g ⟨nm, ps, kl, .slice P ps.length pd, .slice Q kl.length qd⟩ k) n (.slice ua n.ps.length uc) (.slice ub n.ks.length ud)) :=
      (nd_below hn3 hb9).mono fun k hk => ⟨by have := HV.out.gB; have := HV.out.arr.lt; have hk' : W1.heap.size ≤ k := hk; omega, fun hf => absurd (HV.out.high hf) (Nat.not_lt.2 hk)⟩
    have HFE := Lib.hid hfe
    clear hb9 hm3 hn3 hR3 hfe HV HR HM HA6 HC t0 t1 t2 HG6
    go_upto_region 7 with fail
    generalize w3.alloc (.cells #[.string n.nm, .slice ua n.ps.length uc, .slice ub n.ks.length ud] 28) = W9 at *
    generalize w3.heap.size = g9 at *
    have HEL := Lib.hid elemNode
    have hba : Below W9.heap.size W9 (W9.alloc (.cells #[.string ⟨#[]⟩, .slice none 0 0, .slice none 0 0] 28)).drew := ((Below.refl _ _).alloc (Nat.le_refl _) _).drew
    have HVA := Lib.hid (HV9.out.below hba)
    have HA9A := Lib.hid (HA9.out.below hba HA9.out.lt)
    have HRA := Lib.hid (HR9.out.kept (Moved.of_below hba (fun _ => False)) id)
    have HMA := Lib.hid (HM9.out.trans (Moved.of_below hba _))
    have HKA := Lib.hid (nd_below HK9.out hba)
    have HNEW : Hid (Arr (W9.alloc (.cells #[.string ⟨#[]⟩, .slice none 0 0, .slice none 0 0] 28)).drew W9.heap.size 28 #[.string ⟨#[]⟩, .slice none 0 0, .slice none 0 0]) := Arr.new W9 _ _
    have HROW : Hid ((W9.alloc (.cells #[.string ⟨#[]⟩, .slice none 0 0, .slice none 0 0] 28)).drew.ownsRow B 28 3 (.slice Q kl.length qd) kl.length (kdL kl)) := HVA.out.on.q
    have HSZ : Hid (B ≤ (W9.alloc (.cells #[.string ⟨#[]⟩, .slice none 0 0, .slice none 0 0] 28)).drew.heap.size) := Nat.le_trans HVA.out.gB (Nat.le_of_lt HVA.out.arr.lt)
    have k2 : W9.cell? ⟨g, 2, none⟩ = some (.slice Q kl.length qd) := HV9.out.arr.cell 2
    have kA : (W9.alloc (.cells #[.string ⟨#[]⟩, .slice none 0 0, .slice none 0 0] 28)).drew.cell? ⟨g, 2, none⟩ = some (.slice Q kl.length qd) := HVA.out.arr.cell 2
    have HS0 : Hid (W9.drew.cell? ⟨g9, 0, none⟩ = some (.string n.nm) ∧ W9.drew.cell? ⟨g9, 1, none⟩ = some (.slice ua n.ps.length uc) ∧ W9.drew.cell? ⟨g9, 2, none⟩ = some (.slice ub n.ks.length ud)) := arr_nd HA9.out
    have HSA : Hid ((W9.alloc (.cells #[.string ⟨#[]⟩, .slice none 0 0, .slice none 0 0] 28)).drew.cell? ⟨g9, 0, none⟩ = some (.string n.nm) ∧ (W9.alloc (.cells #[.string ⟨#[]⟩, .slice none 0 0, .slice none 0 0] 28)).drew.cell? ⟨g9, 1, none⟩ = some (.slice ua n.ps.length uc) ∧ (W9.alloc (.cells #[.string ⟨#[]⟩, .slice none 0 0, .slice none 0 0] 28)).drew.cell? ⟨g9, 2, none⟩ = some (.slice ub n.ks.length ud)) := arr_nd HA9A.out
    have hg9g : g ≠ g9 := Nat.ne_of_lt HG9.out
    have HS7 : Hid (∀ (w' : World) v, (w'.cell? ⟨g9, 0, none⟩ = some (.string n.nm) ∧ w'.cell? ⟨g9, 1, none⟩ = some (.slice ua n.ps.length uc) ∧ w'.cell? ⟨g9, 2, none⟩ = some (.slice ub n.ks.length ud)) → ((w'.setCell ⟨g, 2, none⟩ v).cell? ⟨g9, 0, none⟩ = some (.string n.nm) ∧ (w'.setCell ⟨g, 2, none⟩ v).cell? ⟨g9, 1, none⟩ = some (.slice ua n.ps.length uc) ∧ (w'.setCell ⟨g, 2, none⟩ v).cell? ⟨g9, 2, none⟩ = some (.slice ub n.ks.length ud))) := fun w' v ⟨e1, e2, e3⟩ => ⟨(World.cell?_setCell_far _ _ _ _ hg9g).trans e1, (World.cell?_setCell_far _ _ _ _ hg9g).trans e2, (World.cell?_setCell_far _ _ _ _ hg9g).trans e3⟩
    have HS8 : Hid (∀ (w' : World) g5 a b c u v y, g5 ≠ g9 → (w'.cell? ⟨g9, 0, none⟩ = some (.string n.nm) ∧ w'.cell? ⟨g9, 1, none⟩ = some (.slice ua n.ps.length uc) ∧ w'.cell? ⟨g9, 2, none⟩ = some (.slice ub n.ks.length ud)) → ((((w'.setCell ⟨g5, a, none⟩ u).setCell ⟨g5, b, none⟩ v).setCell ⟨g5, c, none⟩ y).cell? ⟨g9, 0, none⟩ = some (.string n.nm) ∧ (((w'.setCell ⟨g5, a, none⟩ u).setCell ⟨g5, b, none⟩ v).setCell ⟨g5, c, none⟩ y).cell? ⟨g9, 1, none⟩ = some (.slice ua n.ps.length uc) ∧ (((w'.setCell ⟨g5, a, none⟩ u).setCell ⟨g5, b, none⟩ v).setCell ⟨g5, c, none⟩ y).cell? ⟨g9, 2, none⟩ = some (.slice ub n.ks.length ud))) := fun w' g5 a b c u v y hne ⟨e1, e2, e3⟩ =>
      ⟨(World.cell?_setCell_far _ _ _ _ hne).trans ((World.cell?_setCell_far _ _ _ _ hne).trans ((World.cell?_setCell_far _ _ _ _ hne).trans e1)), (World.cell?_setCell_far _ _ _ _ hne).trans ((World.cell?_setCell_far _ _ _ _ hne).trans ((World.cell?_setCell_far _ _ _ _ hne).trans e2)), (World.cell?_setCell_far _ _ _ _ hne).trans ((World.cell?_setCell_far _ _ _ _ hne).trans ((World.cell?_setCell_far _ _ _ _ hne).trans e3))⟩
    have HF5 : Hid (∀ g5 cap5 w5, w5.ownsRow B 28 3 (.slice (some ⟨g5, 0, none⟩) (kl.length + 1) cap5) (kl.length + 1) (kdL kl ++ (#[.string ⟨#[]⟩, .slice none 0 0, .slice none 0 0] : Array Value).toList) → (W9.alloc (.cells #[.string ⟨#[]⟩, .slice none 0 0, .slice none 0 0] 28)).drew.grownBy w5 (Value.ownBlock (.slice Q kl.length qd)) → (Value.ownBlock (.slice Q kl.length qd) = some g5 ∨ g5 = (W9.alloc (.cells #[.string ⟨#[]⟩, .slice none 0 0, .slice none 0 0] 28)).drew.heap.size) →
        (w5.cell? ⟨g9, 0, none⟩ = some (.string n.nm) ∧ w5.cell? ⟨g9, 1, none⟩ = some (.slice ua n.ps.length uc) ∧ w5.cell? ⟨g9, 2, none⟩ = some (.slice ub n.ks.length ud)) ∧ w5.cell? ⟨g, 2, none⟩ = some (.slice Q kl.length qd) ∧ w5.frozen? ⟨g, 2, none⟩ = false ∧ g5 ≠ g ∧ g5 ≠ g9 ∧
        w5.cell? ⟨g5, kl.length * 3, none⟩ = some (.string ⟨#[]⟩) ∧ w5.cell? ⟨g5, kl.length * 3 + 1, none⟩ = some (.slice none 0 0) ∧ w5.cell? ⟨g5, kl.length * 3 + 2, none⟩ = some (.slice none 0 0) ∧ w5.frozen? ⟨g5, kl.length * 3, none⟩ = false ∧ w5.frozen? ⟨g5, kl.length * 3 + 1, none⟩ = false ∧ w5.frozen? ⟨g5, kl.length * 3 + 2, none⟩ = false ∧
        ∀ wz, (wz = ((((w5).setCell ⟨g5, kl.length * 3, none⟩ (.string n.nm)).setCell ⟨g5, kl.length * 3 + 1, none⟩ (.slice ua n.ps.length uc)).setCell ⟨g5, kl.length * 3 + 2, none⟩ (.slice ub n.ks.length ud)).setCell ⟨g, 2, none⟩ (.slice (some ⟨g5, 0, none⟩) (kl.length + 1) cap5) ∨ wz = (((w5.setCell ⟨g, 2, none⟩ (.slice (some ⟨g5, 0, none⟩) (kl.length + 1) cap5)).setCell ⟨g5, kl.length * 3, none⟩ (.string n.nm)).setCell ⟨g5, kl.length * 3 + 1, none⟩ (.slice ua n.ps.length uc)).setCell ⟨g5, kl.length * 3 + 2, none⟩ (.slice ub n.ks.length ud)) → IntoPost w0 w r B g X op ⟨1, tn, tv⟩ l ns pn (.returned (.int .i64 0)) wz) := by
      intro g5 cap5 w5 q1 q2 q3
      have hV := HVA.out
      have hqb : ∀ k, Value.ownBlock (.slice Q kl.length qd) = some k → k < g9 := fun k hk => (HV9.out.on.q.lt k hk).2 |> fun h => by
        have := HV3H.out k (.inr (.inr hk))
        exact this
      have hsep : Value.ownBlock (.slice Q kl.length qd) ≠ some g := hV.sep
      have hA95 := HA9A.out.gr q2 (fun e => by have := hqb g9 e.symm; omega)
      have hA5 := hV.arr.gr q2 (fun e => hsep e.symm)
      have hg5 : g5 ≠ g := by
        rintro rfl
        rcases q3 with h | h
        · exact hsep h
        · have := hV.arr.lt; omega
      have hg59 : g5 ≠ g9 := by
        rintro rfl
        rcases q3 with h | h
        · have := hqb _ h; omega
        · have := HA9A.out.lt; omega
      have hkl0 : (kdL kl).length = kl.length * 3 := flat_len (f := kdl) (fun _ => rfl) kl
      have e : ∀ j, j < 3 → w5.cell? ⟨g5, kl.length * 3 + j, none⟩ = (#[.string ⟨#[]⟩, .slice none 0 0, .slice none 0 0] : Array Value).toList[j]? := fun j hj => by
        rw [q1.cellAt _ (by omega), List.getElem?_append_right (by rw [hkl0]; omega), hkl0, Nat.add_sub_cancel_left]
      refine ⟨arr_nd hA95, hA5.cell 2, hA5.frozen 2, hg5, hg59, e 0 (by omega), e 1 (by omega), e 2 (by omega), q1.frozenAt _, q1.frozenAt _, q1.frozenAt _, fun wz hz => ?_⟩
      have hs3 : (((kdL kl ++ (#[.string ⟨#[]⟩, .slice none 0 0, .slice none 0 0] : Array Value).toList).set (kl.length * 3) (.string n.nm)).set (kl.length * 3 + 1) (.slice ua n.ps.length uc)).set (kl.length * 3 + 2) (.slice ub n.ks.length ud) = kdL (kl ++ [⟨n, .slice ua n.ps.length uc, .slice ub n.ks.length ud⟩]) := by
        rw [kdL_app]
        exact set_three (kdL kl) _ _ _ _ _ _ _ hkl0.symm
      have mq : ∀ (x y : World) (b : Nat), x.grownBy y (some b) → (b = g ∨ b = g5) → Moved x y (fun k => k = g ∨ ownS (.slice (some ⟨g5, 0, none⟩) (kl.length + 1) cap5) k) (fun k => k = g ∨ ownS (.slice (some ⟨g5, 0, none⟩) (kl.length + 1) cap5) k) := fun x y b hg hb => Moved.grown hg (fun k hk => by
        injection hk with hk
        subst hk
        rcases hb with hb | hb
        · exact .inl hb
        · right; rw [hb]; rfl) (fun k hk => .inl hk)
      have m1 : Moved (W9.alloc (.cells #[.string ⟨#[]⟩, .slice none 0 0, .slice none 0 0] 28)).drew w5 (fun k => k = g ∨ ownS (.slice Q kl.length qd) k) (fun k => k = g ∨ ownS (.slice (some ⟨g5, 0, none⟩) (kl.length + 1) cap5) k) := Moved.grown q2 (fun k hk => .inr hk) (fun k hk => by
        rcases hk with hk | hk
        · exact .inl (.inl hk)
        · exact (ownS_lies (n := kl.length + 1) (cap := cap5) q3 k hk).imp .inr id)
      have fin : ∀ W', Arr W' g 28 #[.string nm, (.slice P ps.length pd), (.slice (some ⟨g5, 0, none⟩) (kl.length + 1) cap5)] → W'.ownsRow B 28 3 (.slice (some ⟨g5, 0, none⟩) (kl.length + 1) cap5) (kl.length + 1) (kdL (kl ++ [⟨n, .slice ua n.ps.length uc, .slice ub n.ks.length ud⟩])) → Moved w5 W' (fun k => k = g ∨ ownS (.slice (some ⟨g5, 0, none⟩) (kl.length + 1) cap5) k) (fun k => k = g ∨ ownS (.slice (some ⟨g5, 0, none⟩) (kl.length + 1) cap5) k) → IntoPost w0 w r B g X op ⟨1, tn, tv⟩ l ns pn (.returned (.int .i64 0)) W' := by
        intro W' hA hq hm
        have hnv := nv_kid hV ⟨n, .slice ua n.ps.length uc, .slice ub n.ks.length ud⟩ (q' := (.slice (some ⟨g5, 0, none⟩) (kl.length + 1) cap5)) (w' := W') hA hq (m1.trans hm) (fun e => hg5 (by injection e)) HKA.out
        refine ⟨HMA.out.trans (hnv.2.wide fun k hk => .inr (hV.low hk)), .inl ⟨_, A3, cap3, l3, ns3, pn3, rfl, .inl rfl, hnv.1, HRA.out.kept hnv.2 (fun hf => by have := hV.low hf; omega), by omega, b2, b3, b4, ?_, ?_, b5, ?_⟩⟩
        · show ps.length ≤ pn3; omega
        · show (kl ++ [_]).length ≤ ns3
          rw [List.length_append]; simp only [List.length_cons, List.length_nil]; omega
        · rw [HFE.out, pop_kid, HX.out]
          show finB (runB (stB (op ++ [ND.mk nm ps (kl.map KD.nd ++ [n])]) ns3 pn3) l3) = finB (runB (stB (op ++ [ND.mk nm ps ((kl ++ [(⟨n, .slice ua n.ps.length uc, .slice ub n.ks.length ud⟩ : KD)]).map KD.nd)]) ns3 pn3) l3)
          rw [List.map_append]; rfl
      rcases hz with rfl | rfl
      · have hr := row_three q1 (kl.length * 3) (.string n.nm) (.slice ua n.ps.length uc) (.slice ub n.ks.length ud) hs3
        refine fin _ ((((hA5.far hg5.symm _).far hg5.symm _).far hg5.symm _).put 2 _) (hr.1.kept (gr_cell _ g 2 _) (.inr fun e => hg5 (by injection e))) ((mq _ _ _ hr.2 (.inr rfl)).trans (mq _ _ _ (gr_cell _ g 2 _) (.inl rfl)))
      · have hr := row_three (q1.kept (w' := w5.setCell ⟨g, 2, none⟩ (.slice (some ⟨g5, 0, none⟩) (kl.length + 1) cap5)) (gr_cell w5 g 2 _) (.inr fun e => hg5 (by injection e))) (kl.length * 3) (.string n.nm) (.slice ua n.ps.length uc) (.slice ub n.ks.length ud) hs3
        refine fin _ ((((hA5.put 2 _).far hg5.symm _).far hg5.symm _).far hg5.symm _) hr.1 ((mq _ _ _ (gr_cell _ g 2 _) (.inl rfl)).trans (mq _ _ _ hr.2 (.inr rfl)))
    clear HVA HA9A HRA HMA hba HKA HX HOP HFE
    have hi1 : (kl.length : Int) < (kl.length : Int) + 1 := by omega
    refine wp_region_held_drew (S := fun (w' : World) => w'.cell? ⟨g9, 0, none⟩ = some (.string n.nm) ∧ w'.cell? ⟨g9, 1, none⟩ = some (.slice ua n.ps.length uc) ∧ w'.cell? ⟨g9, 2, none⟩ = some (.slice ub n.ks.length ud)) (by kernel_rfl) (by exact HS0.out) (fun hHeld => ?_)
    refine takeH 0 27 rfl rfl (v := ?_) (by kernel_rfl) (by kernel_rfl) (by kernel_rfl) (fun _ _ _ h => h) (Or.inl ⟨by rfl, ?_⟩) hHeld ?_
    rotate_left 1
    · (intro w hSw; (try dsimp only at hSw); go_simp; try (with_reducible rfl))
    (try simp only [Act.put]); (try simp only [List.setIfInBounds_toArray]); (try simp only [List.set_cons_succ]); (try simp only [List.set_cons_zero])
    refine takeH 1 28 rfl rfl (v := ?_) (by kernel_rfl) (by kernel_rfl) (by kernel_rfl) (fun _ _ _ h => h) (Or.inl ⟨by rfl, ?_⟩) hHeld ?_
    rotate_left 1
    · (intro w hSw; (try dsimp only at hSw); go_simp; try (with_reducible rfl))
    (try simp only [Act.put]); (try simp only [List.setIfInBounds_toArray]); (try simp only [List.set_cons_succ]); (try simp only [List.set_cons_zero])
    refine takeH 2 29 rfl rfl (v := ?_) (by kernel_rfl) (by kernel_rfl) (by kernel_rfl) (fun _ _ _ h => h) (Or.inl ⟨by rfl, ?_⟩) hHeld ?_
    rotate_left 1
    · (intro w hSw; (try dsimp only at hSw); go_simp; try (with_reducible rfl))
    (try simp only [Act.put]); (try simp only [List.setIfInBounds_toArray]); (try simp only [List.set_cons_succ]); (try simp only [List.set_cons_zero])
    refine takeH 4 31 rfl rfl (v := ?_) (by kernel_rfl) (by kernel_rfl) (by kernel_rfl) (fun _ _ _ h => h) (Or.inl ⟨by rfl, ?_⟩) hHeld ?_
    rotate_left 1
    · (intro w hSw; (try dsimp only at hSw); go_simp; try (with_reducible rfl))
    (try simp only [Act.put]); (try simp only [List.setIfInBounds_toArray]); (try simp only [List.set_cons_succ]); (try simp only [List.set_cons_zero])
    refine wpAnyH_ready (rs := [3, 6]) (by kernel_rfl) (by simp) (AllReadyH.cons rfl (fun K hK => ?_) (AllReadyH.cons rfl (fun K hK => ?_) AllReadyH.nil))
    · go_simp
      refine hK.out _ _ (by exact hHeld) (fun hHeld => ?_)
      clear hK K
      (try simp only [Act.put]); (try simp only [List.setIfInBounds_toArray]); (try simp only [List.set_cons_succ]); (try simp only [List.set_cons_zero])
      refine takeH 5 32 rfl rfl (v := ?_) (by kernel_rfl) (by kernel_rfl) (by kernel_rfl) (fun _ _ _ h => h) (Or.inl ⟨by rfl, ?_⟩) hHeld ?_
      rotate_left 1
      · (intro w hSw; (try dsimp only at hSw); go_simp; try (with_reducible rfl))
      (try simp only [Act.put]); (try simp only [List.setIfInBounds_toArray]); (try simp only [List.set_cons_succ]); (try simp only [List.set_cons_zero])
      refine wpAnyH_ready (rs := [6]) (by kernel_rfl) (by simp) (AllReadyH.cons rfl (fun K hK => ?_) AllReadyH.nil)
      go_simp
      refine hK.out _ _ (by exact HSA.out) (fun hHeld => ?_)
      clear hK K
      (try simp only [Act.put]); (try simp only [List.setIfInBounds_toArray]); (try simp only [List.set_cons_succ]); (try simp only [List.set_cons_zero])
      refine wpAnyH_ready (rs := [7]) (by kernel_rfl) (by simp) (AllReadyH.cons rfl (fun K hK => ?_) AllReadyH.nil)
      refine step_append_at (by rfl) _ _ _ (by rfl) 28 3 64 HEL B (.slice Q kl.length qd) kl.length (kdL kl) (by rfl) HROW.out W9.heap.size #[.string ⟨#[]⟩, .slice none 0 0, .slice none 0 0] HNEW.out rfl zeroN_one (by rfl) (by unfold maxLen; omega) (by omega) HSZ.out ?_
      intro g5 cap5 w5 q1 q2 q3 q4
      obtain ⟨hs5, y1, y2, y4, y5, z0, z1, z2, z3, z4, z5, y6⟩ := HF5.out g5 cap5 w5 q1 q2 q3
      (try dsimp only)
      refine hK.out _ _ (by exact hs5) (fun hHeld => ?_)
      clear hK K
      (try simp only [Act.put]); (try simp only [List.setIfInBounds_toArray]); (try simp only [List.set_cons_succ]); (try simp only [List.set_cons_zero])
      refine takeH 8 35 rfl rfl (v := ?_) (by kernel_rfl) (by kernel_rfl) (by kernel_rfl) (fun _ _ _ h => h) (Or.inl ⟨by rfl, ?_⟩) hHeld ?_
      rotate_left 1
      · (intro w hSw; (try dsimp only at hSw); go_simp; try (with_reducible rfl))
      (try simp only [Act.put]); (try simp only [List.setIfInBounds_toArray]); (try simp only [List.set_cons_succ]); (try simp only [List.set_cons_zero])
      refine takeH 10 36 rfl rfl (v := ?_) (by kernel_rfl) (by kernel_rfl) (by kernel_rfl) (fun _ _ _ h => h) (Or.inl ⟨by rfl, ?_⟩) hHeld ?_
      rotate_left 1
      · (intro w hSw; (try dsimp only at hSw); go_simp; try (with_reducible rfl))
      (try simp only [Act.put]); (try simp only [List.setIfInBounds_toArray]); (try simp only [List.set_cons_succ]); (try simp only [List.set_cons_zero])
      refine takeH 11 37 rfl rfl (v := ?_) (by kernel_rfl) (by kernel_rfl) (by kernel_rfl) (fun _ _ _ h => h) (Or.inl ⟨by rfl, ?_⟩) hHeld ?_
      rotate_left 1
      · (intro w hSw; (try dsimp only at hSw); go_simp; try (with_reducible rfl))
      (try simp only [Act.put]); (try simp only [List.setIfInBounds_toArray]); (try simp only [List.set_cons_succ]); (try simp only [List.set_cons_zero])
      refine wpAnyH_ready (rs := [9, 12]) (by kernel_rfl) (by simp) (AllReadyH.cons rfl (fun K hK => ?_) (AllReadyH.cons rfl (fun K hK => ?_) AllReadyH.nil))
      · go_simp
        refine hK.out _ _ (by exact HS8.out _ _ _ _ _ _ _ _ y5 hHeld) (fun hHeld => ?_)
        clear hK K
        (try simp only [Act.put]); (try simp only [List.setIfInBounds_toArray]); (try simp only [List.set_cons_succ]); (try simp only [List.set_cons_zero])
        refine wpAnyH_ready (rs := [12]) (by kernel_rfl) (by simp) (AllReadyH.cons rfl (fun K hK => ?_) AllReadyH.nil)
        go_simp
        refine hK.out _ _ (by exact HS7.out _ _ hHeld) (fun hHeld => ?_)
        clear hK K
        (try simp only [Act.put]); (try simp only [List.setIfInBounds_toArray]); (try simp only [List.set_cons_succ]); (try simp only [List.set_cons_zero])
        refine wpAnyH_done (by kernel_rfl) ?_ _
        have HE := Lib.hid y6
        clear y1 y2 y4 y5 y6 z0 z1 z2 z3 z4 z5 hs5 q1 q2 q3 q4 HF5 HNEW HROW HSZ HS0 HS7 HS8 hHeld HSA HEL k2 kA
        go_wp2
        go_ret
        first | exact HE.out _ (.inl rfl) | exact HE.out _ (.inr rfl)
      · go_simp
        refine hK.out _ _ (by exact HS7.out _ _ hHeld) (fun hHeld => ?_)
        clear hK K
        (try simp only [Act.put]); (try simp only [List.setIfInBounds_toArray]); (try simp only [List.set_cons_succ]); (try simp only [List.set_cons_zero])
        refine wpAnyH_ready (rs := [9]) (by kernel_rfl) (by simp) (AllReadyH.cons rfl (fun K hK => ?_) AllReadyH.nil)
        go_simp
        refine hK.out _ _ (by exact HS8.out _ _ _ _ _ _ _ _ y5 hHeld) (fun hHeld => ?_)
        clear hK K
        (try simp only [Act.put]); (try simp only [List.setIfInBounds_toArray]); (try simp only [List.set_cons_succ]); (try simp only [List.set_cons_zero])
        refine wpAnyH_done (by kernel_rfl) ?_ _
        have HE := Lib.hid y6
        clear y1 y2 y4 y5 y6 z0 z1 z2 z3 z4 z5 hs5 q1 q2 q3 q4 HF5 HNEW HROW HSZ HS0 HS7 HS8 hHeld HSA HEL k2 kA
        go_wp2
        go_ret
        first | exact HE.out _ (.inl rfl) | exact HE.out _ (.inr rfl)
    · go_simp
      refine hK.out _ _ (by exact HSA.out) (fun hHeld => ?_)
      clear hK K
      (try simp only [Act.put]); (try simp only [List.setIfInBounds_toArray]); (try simp only [List.set_cons_succ]); (try simp only [List.set_cons_zero])
      refine wpAnyH_ready (rs := [3]) (by kernel_rfl) (by simp) (AllReadyH.cons rfl (fun K hK => ?_) AllReadyH.nil)
      go_simp
      refine hK.out _ _ (by exact hHeld) (fun hHeld => ?_)
      clear hK K
      (try simp only [Act.put]); (try simp only [List.setIfInBounds_toArray]); (try simp only [List.set_cons_succ]); (try simp only [List.set_cons_zero])
      refine takeH 5 32 rfl rfl (v := ?_) (by kernel_rfl) (by kernel_rfl) (by kernel_rfl) (fun _ _ _ h => h) (Or.inl ⟨by rfl, ?_⟩) hHeld ?_
      rotate_left 1
      · (intro w hSw; (try dsimp only at hSw); go_simp; try (with_reducible rfl))
      (try simp only [Act.put]); (try simp only [List.setIfInBounds_toArray]); (try simp only [List.set_cons_succ]); (try simp only [List.set_cons_zero])
      refine wpAnyH_ready (rs := [7]) (by kernel_rfl) (by simp) (AllReadyH.cons rfl (fun K hK => ?_) AllReadyH.nil)
      refine step_append_at (by rfl) _ _ _ (by rfl) 28 3 64 HEL B (.slice Q kl.length qd) kl.length (kdL kl) (by rfl) HROW.out W9.heap.size #[.string ⟨#[]⟩, .slice none 0 0, .slice none 0 0] HNEW.out rfl zeroN_one (by rfl) (by unfold maxLen; omega) (by omega) HSZ.out ?_
      intro g5 cap5 w5 q1 q2 q3 q4
      obtain ⟨hs5, y1, y2, y4, y5, z0, z1, z2, z3, z4, z5, y6⟩ := HF5.out g5 cap5 w5 q1 q2 q3
      (try dsimp only)
      refine hK.out _ _ (by exact hs5) (fun hHeld => ?_)
      clear hK K
      (try simp only [Act.put]); (try simp only [List.setIfInBounds_toArray]); (try simp only [List.set_cons_succ]); (try simp only [List.set_cons_zero])
      refine takeH 8 35 rfl rfl (v := ?_) (by kernel_rfl) (by kernel_rfl) (by kernel_rfl) (fun _ _ _ h => h) (Or.inl ⟨by rfl, ?_⟩) hHeld ?_
      rotate_left 1
      · (intro w hSw; (try dsimp only at hSw); go_simp; try (with_reducible rfl))
      (try simp only [Act.put]); (try simp only [List.setIfInBounds_toArray]); (try simp only [List.set_cons_succ]); (try simp only [List.set_cons_zero])
      refine takeH 10 36 rfl rfl (v := ?_) (by kernel_rfl) (by kernel_rfl) (by kernel_rfl) (fun _ _ _ h => h) (Or.inl ⟨by rfl, ?_⟩) hHeld ?_
      rotate_left 1
      · (intro w hSw; (try dsimp only at hSw); go_simp; try (with_reducible rfl))
      (try simp only [Act.put]); (try simp only [List.setIfInBounds_toArray]); (try simp only [List.set_cons_succ]); (try simp only [List.set_cons_zero])
      refine takeH 11 37 rfl rfl (v := ?_) (by kernel_rfl) (by kernel_rfl) (by kernel_rfl) (fun _ _ _ h => h) (Or.inl ⟨by rfl, ?_⟩) hHeld ?_
      rotate_left 1
      · (intro w hSw; (try dsimp only at hSw); go_simp; try (with_reducible rfl))
      (try simp only [Act.put]); (try simp only [List.setIfInBounds_toArray]); (try simp only [List.set_cons_succ]); (try simp only [List.set_cons_zero])
      refine wpAnyH_ready (rs := [9, 12]) (by kernel_rfl) (by simp) (AllReadyH.cons rfl (fun K hK => ?_) (AllReadyH.cons rfl (fun K hK => ?_) AllReadyH.nil))
      · go_simp
        refine hK.out _ _ (by exact HS8.out _ _ _ _ _ _ _ _ y5 hHeld) (fun hHeld => ?_)
        clear hK K
        (try simp only [Act.put]); (try simp only [List.setIfInBounds_toArray]); (try simp only [List.set_cons_succ]); (try simp only [List.set_cons_zero])
        refine wpAnyH_ready (rs := [12]) (by kernel_rfl) (by simp) (AllReadyH.cons rfl (fun K hK => ?_) AllReadyH.nil)
        go_simp
        refine hK.out _ _ (by exact HS7.out _ _ hHeld) (fun hHeld => ?_)
        clear hK K
        (try simp only [Act.put]); (try simp only [List.setIfInBounds_toArray]); (try simp only [List.set_cons_succ]); (try simp only [List.set_cons_zero])
        refine wpAnyH_done (by kernel_rfl) ?_ _
        have HE := Lib.hid y6
        clear y1 y2 y4 y5 y6 z0 z1 z2 z3 z4 z5 hs5 q1 q2 q3 q4 HF5 HNEW HROW HSZ HS0 HS7 HS8 hHeld HSA HEL k2 kA
        go_wp2
        go_ret
        first | exact HE.out _ (.inl rfl) | exact HE.out _ (.inr rfl)
      · go_simp
        refine hK.out _ _ (by exact HS7.out _ _ hHeld) (fun hHeld => ?_)
        clear hK K
        (try simp only [Act.put]); (try simp only [List.setIfInBounds_toArray]); (try simp only [List.set_cons_succ]); (try simp only [List.set_cons_zero])
        refine wpAnyH_ready (rs := [9]) (by kernel_rfl) (by simp) (AllReadyH.cons rfl (fun K hK => ?_) AllReadyH.nil)
        go_simp
        refine hK.out _ _ (by exact HS8.out _ _ _ _ _ _ _ _ y5 hHeld) (fun hHeld => ?_)
        clear hK K
        (try simp only [Act.put]); (try simp only [List.setIfInBounds_toArray]); (try simp only [List.set_cons_succ]); (try simp only [List.set_cons_zero])
        refine wpAnyH_done (by kernel_rfl) ?_ _
        have HE := Lib.hid y6
        clear y1 y2 y4 y5 y6 z0 z1 z2 z3 z4 z5 hs5 q1 q2 q3 q4 HF5 HNEW HROW HSZ HS0 HS7 HS8 hHeld HSA HEL k2 kA
        go_wp2
        go_ret
        first | exact HE.out _ (.inl rfl) | exact HE.out _ (.inr rfl)
  · have hb9 : Below w3.heap.size w3 (w3.alloc (.cells #[.string ⟨#[]⟩, .slice none 0 0, .slice none 0 0] 28)) := (Below.refl _ _).alloc (Nat.le_refl _) _
    have HM9 := Lib.hid ((HM.out.trans (hm3.wide (fun k hk => .inl hk))).trans (Moved.of_below hb9 _))
    have HFE := Lib.hid hfe
    have HER := Lib.hid her
    have d1 : ((er : Int) != 0) = true := by simp; omega
    clear hb9 hm3 hfe her HV HR HM HA6 HC t0 t1 t2
    go_wp2
    go_ret
    exact ⟨HM9.out, .inr ⟨er, rfl, HER.out, HFE.out⟩⟩
end Go.Proofs.YtfcclppgjfkfoaaGreatDoor
