/- The document's at, Text and Number of layer 16. Conditions: a path of at most 2^30 bytes; a tree that is read; a value of at most 2^40 bytes. -/
import Derived.Test.YtfcclppgjfkfoaaDoorMg15
import Derived.Test.YtfcclppgjfkfoaaDoorMg6
import Derived.Test.YtfcclppgjfkfoaaDoorMg28
import Derived.Test.YtfcclppgjfkfoaaDoorMg8
namespace Go.Proofs.YtfcclppgjfkfoaaDoor
open Go.RowKit

/-- The value of a property of the node of a path. -/
def atR (n : ND) (p : List UInt8) (nm : ByteArray) : Option ByteArray := match findR n p with
  | none => none
  | some k => valR k nm
def textR (n : ND) (p : List UInt8) (nm : ByteArray) : ByteArray × Bool := match atR n p nm with
  | none => (⟨#[]⟩, false)
  | some v => asT1 v.data.toList
def numR (n : ND) (p : List UInt8) (nm : ByteArray) : Int × Bool := match atR n p nm with
  | none => (0, false)
  | some v => (asN1 v.data.toList, decide (v.size = 4))
end Go.Proofs.YtfcclppgjfkfoaaDoor

/- What package path must do (PathMust), and the law's awake of layer 16 over it. Conditions: paths and names of at most 10^6 bytes; trees of at most 12 levels and few parts. -/
namespace Go.Proofs.YtfcclppgjfkfoaaDoor
open Go.RowKit

/-- The tree that awake() takes. -/
def k16 : ND := .mk ⟨#[97]⟩ [⟨⟨#[120]⟩, ⟨#[116, 0]⟩⟩, ⟨⟨#[121]⟩, ⟨#[0, 0, 0, 7]⟩⟩] []
def n16 : ND := .mk ⟨#[]⟩ [] [k16]
theorem low16 : LowR n16 = true := by decide +kernel
theorem parts16 : partsR [47, 97, 47, 98] = ([[97], [98]], true) := by decide +kernel
theorem parts16a : partsR [47, 97] = ([[97]], true) := by decide +kernel
theorem parts16b : partsR [47, 98] = ([[98]], true) := by decide +kernel
theorem find16 : findR n16 [47, 97] = some k16 := by
  unfold findR
  rw [parts16a]; rfl
theorem find16b : findR n16 [47, 98] = none := by
  unfold findR
  rw [parts16b]; rfl
theorem text16 : textR n16 [47, 97] ⟨#[120]⟩ = (⟨#[116]⟩, true) := by
  have h0 : atR n16 [47, 97] ⟨#[120]⟩ = some ⟨#[116, 0]⟩ := by
    unfold atR
    rw [find16]; rfl
  have h1 : okV [116, 0] = true := by decide +kernel
  have h2 : asT [116, 0] = [[116]] := by decide +kernel
  unfold textR
  rw [h0]
  show asT1 [116, 0] = _
  unfold asT1
  rw [h1, h2]; rfl
theorem num16 : numR n16 [47, 97] ⟨#[121]⟩ = (7, true) := by
  have h0 : atR n16 [47, 97] ⟨#[121]⟩ = some ⟨#[0, 0, 0, 7]⟩ := by
    unfold atR
    rw [find16]; rfl
  unfold numR
  rw [h0]; rfl
theorem join16 : joinB [⟨#[97]⟩, ⟨#[98]⟩] = [47, 97, 47, 98] := by rfl

end Go.Proofs.YtfcclppgjfkfoaaDoor

/- The awake() of layer 17's statements. Conditions: the contracts of package edit. -/
namespace Go.Proofs.YtfcclppgjfkfoaaDoor
open Go.RowKit

/-- The trees that awake() makes. -/
def b17 (l : List PR) : ND := .mk ⟨#[98]⟩ l []
def n17 : ND := .mk ⟨#[]⟩ [] [.mk ⟨#[97]⟩ [] [b17 []]]
def m17 : ND := .mk ⟨#[]⟩ [] [.mk ⟨#[97]⟩ [] [b17 [⟨⟨#[120]⟩, ⟨#[49]⟩⟩]]]
theorem low17_0 : LowR nd0 = true := by decide +kernel
theorem low17_n : LowR n17 = true := by decide +kernel
theorem low17_m : LowR m17 = true := by decide +kernel
theorem make17 : makeR17 nd0 [47, 97, 47, 98] = (n17, 0) := by
  unfold makeR17
  rw [parts16]
  kernel_rfl
theorem set17 : doR17 n17 [47, 97, 47, 98] ⟨1, ⟨#[120]⟩, ⟨#[49]⟩⟩ = (m17, 0) := by
  unfold doR17
  rw [parts16]
  kernel_rfl
theorem find17 : findR m17 [47, 97, 47, 98] = some (b17 [⟨⟨#[120]⟩, ⟨#[49]⟩⟩]) := by
  unfold findR
  rw [parts16]
  kernel_rfl
theorem drop17 : dropR17 m17 [47, 97] = (nd0, 0) := by
  unfold dropR17
  rw [parts16a]
  kernel_rfl
theorem add17 : doR17 n17 [47, 97] ⟨3, ⟨#[98]⟩, ⟨#[]⟩⟩ = (nd0, 12) := by
  unfold doR17
  rw [parts16a]
  kernel_rfl

set_option maxHeartbeats 3200000 in
set_option maxRecDepth 100000 in
theorem awake17 (M : EditMust) (w : World) : Calls Tryd.prog 7 #[] w fun e w' => e = .returned (.bool true) ∧ Below w.heap.size w w' := by
  have HMK : Hid (∀ W, Calls Tryd.prog 21 #[.agg #[.string ⟨#[]⟩, .slice none 0 0, .slice none 0 0], .string ⟨#[47, 97, 47, 98]⟩] W (Ed (fun _ => True) (n17, 0) W)) := fun W => by
    have := M.make (fun _ => True) nd0 _ _ ⟨#[47, 97, 47, 98]⟩ W (sz_of_low low17_0) (by decide) (nd0_at W _)
    rw [show (⟨#[47, 97, 47, 98]⟩ : ByteArray).data.toList = [47, 97, 47, 98] from rfl, make17] at this
    exact this
  have HST : Hid (∀ W G y z, NdAt W G n17 y z → Calls Tryd.prog 14 #[.agg #[.string n17.nm, y, z], .string ⟨#[47, 97, 47, 98]⟩, .string ⟨#[120]⟩, .string ⟨#[49]⟩] W (Ed G (m17, 0) W)) := fun W G y z h => by
    have := M.set G n17 y z ⟨#[47, 97, 47, 98]⟩ ⟨#[120]⟩ ⟨#[49]⟩ W (sz_of_low low17_n) (by decide) (by decide) (by decide) h
    rw [show (⟨#[47, 97, 47, 98]⟩ : ByteArray).data.toList = [47, 97, 47, 98] from rfl, set17] at this
    exact this
  have HFD : Hid (∀ W G y z, NdAt W G m17 y z → Calls Tryd.prog 13 #[.agg #[.string m17.nm, y, z], .string ⟨#[47, 97, 47, 98]⟩] W fun e w' => ∃ u2 u3, e = .returned (.tuple #[.agg #[.string (b17 [⟨⟨#[120]⟩, ⟨#[49]⟩⟩]).nm, u2, u3], .bool true]) ∧ NdAt w' G (b17 [⟨⟨#[120]⟩, ⟨#[49]⟩⟩]) u2 u3 ∧ Below W.heap.size W w') := fun W G y z h => by
    have := rfind_any G m17 y z ⟨#[47, 97, 47, 98]⟩ W (by decide) h
    rw [show (⟨#[47, 97, 47, 98]⟩ : ByteArray).data.toList = [47, 97, 47, 98] from rfl, find17] at this
    exact this
  have HDR : Hid (∀ W G y z, NdAt W G m17 y z → Calls Tryd.prog 18 #[.agg #[.string m17.nm, y, z], .string ⟨#[47, 97]⟩] W (Ed G (nd0, 0) W)) := fun W G y z h => by
    have := M.drop G m17 y z ⟨#[47, 97]⟩ W (sz_of_low low17_m) (by decide) h
    rw [show (⟨#[47, 97]⟩ : ByteArray).data.toList = [47, 97] from rfl, drop17] at this
    exact this
  have HAD : Hid (∀ W G y z, NdAt W G n17 y z → Calls Tryd.prog 17 #[.agg #[.string n17.nm, y, z], .string ⟨#[47, 97]⟩, .string ⟨#[98]⟩] W (Ed G (nd0, 12) W)) := fun W G y z h => by
    have := M.add G n17 y z ⟨#[47, 97]⟩ ⟨#[98]⟩ W (sz_of_low low17_n) (by decide) (by decide) h
    rw [show (⟨#[47, 97]⟩ : ByteArray).data.toList = [47, 97] from rfl, add17] at this
    exact this
  have HB0 : Hid (Below w.heap.size w w) := Below.refl _ _
  clear M
  go_enter Tryd.func7, Tryd.ntmps7
  go_wp2_with fail
  refine (HMK.out _).mono ?_
  rintro e vp ⟨u2, u3, rfl, hk, hb⟩
  obtain ⟨pa, pb, pc, pd, x2, x3, _⟩ := nd_shape hk
  replace x2 : u2 = .slice pa 0 pc := x2
  replace x3 : u3 = .slice pb 1 pd := x3
  subst x2 x3
  have hbn : Below vp.heap.size vp (vp.alloc (.cells #[.string n17.nm, .slice pa 0 pc, .slice pb 1 pd] 25)) := (Below.refl _ _).alloc (Nat.le_refl _) _
  have hb := hb.trans (hbn.mono hb.size)
  have HNp := Lib.hid (nd_below hk hbn)
  have HAp := Lib.hid (Arr.new vp 25 #[.string n17.nm, .slice pa 0 pc, .slice pb 1 pd])
  have HB0 := Lib.hid (HB0.out.trans (hb.mono HB0.out.size))
  clear hk hb hbn 
  go_upto_region 2 with fail
  generalize vp.alloc (.cells #[.string n17.nm, .slice pa 0 pc, .slice pb 1 pd] 25) = W1 at *
  generalize vp.heap.size = p at *
  obtain ⟨p0, p1, p2⟩ : W1.cell? ⟨p, 0, none⟩ = some (.string n17.nm) ∧ W1.cell? ⟨p, 1, none⟩ = some (.slice pa 0 pc) ∧ W1.cell? ⟨p, 2, none⟩ = some (.slice pb 1 pd) := ⟨HAp.out.cell 0, HAp.out.cell 1, HAp.out.cell 2⟩
  go_wp2_with fail
  refine (HST.out _ _ _ _ HNp.out).mono ?_
  rintro e vq ⟨u2, u3, rfl, hk, hb⟩
  obtain ⟨qa, qb, qc, qd, x2, x3, _⟩ := nd_shape hk
  replace x2 : u2 = .slice qa 0 qc := x2
  replace x3 : u3 = .slice qb 1 qd := x3
  subst x2 x3
  have hbn : Below vq.heap.size vq (vq.alloc (.cells #[.string m17.nm, .slice qa 0 qc, .slice qb 1 qd] 25)) := (Below.refl _ _).alloc (Nat.le_refl _) _
  have hb := hb.trans (hbn.mono hb.size)
  have HNq := Lib.hid (nd_below hk hbn)
  have HAq := Lib.hid (Arr.new vq 25 #[.string m17.nm, .slice qa 0 qc, .slice qb 1 qd])
  have HNp := Lib.hid (nd_below HNp.out hb)
  have HAp := Lib.hid (HAp.out.below hb HAp.out.lt)
  have HB0 := Lib.hid (HB0.out.trans (hb.mono HB0.out.size))
  clear hk hb hbn p0 p1 p2
  go_upto_region 3 with fail
  generalize vq.alloc (.cells #[.string m17.nm, .slice qa 0 qc, .slice qb 1 qd] 25) = W2 at *
  generalize vq.heap.size = q at *
  obtain ⟨q0, q1, q2⟩ : W2.cell? ⟨q, 0, none⟩ = some (.string m17.nm) ∧ W2.cell? ⟨q, 1, none⟩ = some (.slice qa 0 qc) ∧ W2.cell? ⟨q, 2, none⟩ = some (.slice qb 1 qd) := ⟨HAq.out.cell 0, HAq.out.cell 1, HAq.out.cell 2⟩
  go_wp2_with fail
  refine (HFD.out _ _ _ _ HNq.out).mono ?_
  rintro e vr ⟨u2, u3, rfl, hk, hb⟩
  obtain ⟨ra, rb, rc, rd, x2, x3, _⟩ := nd_shape hk
  replace x2 : u2 = .slice ra 1 rc := x2
  replace x3 : u3 = .slice rb 0 rd := x3
  subst x2 x3
  have hbn : Below vr.heap.size vr (vr.alloc (.cells #[.string (b17 [⟨⟨#[120]⟩, ⟨#[49]⟩⟩]).nm, .slice ra 1 rc, .slice rb 0 rd] 25)) := (Below.refl _ _).alloc (Nat.le_refl _) _
  have hb := hb.trans (hbn.mono hb.size)
  have HNr := Lib.hid (nd_below hk hbn)
  have HAr := Lib.hid (Arr.new vr 25 #[.string (b17 [⟨⟨#[120]⟩, ⟨#[49]⟩⟩]).nm, .slice ra 1 rc, .slice rb 0 rd])
  have HNp := Lib.hid (nd_below HNp.out hb)
  have HAp := Lib.hid (HAp.out.below hb HAp.out.lt)
  have HNq := Lib.hid (nd_below HNq.out hb)
  have HAq := Lib.hid (HAq.out.below hb HAq.out.lt)
  have HB0 := Lib.hid (HB0.out.trans (hb.mono HB0.out.size))
  clear hk hb hbn q0 q1 q2
  go_upto_region 4 with fail
  generalize vr.alloc (.cells #[.string (b17 [⟨⟨#[120]⟩, ⟨#[49]⟩⟩]).nm, .slice ra 1 rc, .slice rb 0 rd] 25) = W3 at *
  generalize vr.heap.size = r at *
  obtain ⟨q0, q1, q2⟩ : W3.cell? ⟨q, 0, none⟩ = some (.string m17.nm) ∧ W3.cell? ⟨q, 1, none⟩ = some (.slice qa 0 qc) ∧ W3.cell? ⟨q, 2, none⟩ = some (.slice qb 1 qd) := ⟨HAq.out.cell 0, HAq.out.cell 1, HAq.out.cell 2⟩
  go_wp2_with fail
  refine (HDR.out _ _ _ _ HNq.out).mono ?_
  rintro e vs ⟨u2, u3, rfl, hk, hb⟩
  obtain ⟨sa, sb, sc, sd, x2, x3, _⟩ := nd_shape hk
  replace x2 : u2 = .slice sa 0 sc := x2
  replace x3 : u3 = .slice sb 0 sd := x3
  subst x2 x3
  have hbn : Below vs.heap.size vs (vs.alloc (.cells #[.string nd0.nm, .slice sa 0 sc, .slice sb 0 sd] 25)) := (Below.refl _ _).alloc (Nat.le_refl _) _
  have hb := hb.trans (hbn.mono hb.size)
  have HNs := Lib.hid (nd_below hk hbn)
  have HAs := Lib.hid (Arr.new vs 25 #[.string nd0.nm, .slice sa 0 sc, .slice sb 0 sd])
  have HNp := Lib.hid (nd_below HNp.out hb)
  have HAp := Lib.hid (HAp.out.below hb HAp.out.lt)
  have HNr := Lib.hid (nd_below HNr.out hb)
  have HAr := Lib.hid (HAr.out.below hb HAr.out.lt)
  have HB0 := Lib.hid (HB0.out.trans (hb.mono HB0.out.size))
  clear hk hb hbn q0 q1 q2
  go_upto_region 5 with fail
  generalize vs.alloc (.cells #[.string nd0.nm, .slice sa 0 sc, .slice sb 0 sd] 25) = W4 at *
  generalize vs.heap.size = s at *
  obtain ⟨p0, p1, p2⟩ : W4.cell? ⟨p, 0, none⟩ = some (.string n17.nm) ∧ W4.cell? ⟨p, 1, none⟩ = some (.slice pa 0 pc) ∧ W4.cell? ⟨p, 2, none⟩ = some (.slice pb 1 pd) := ⟨HAp.out.cell 0, HAp.out.cell 1, HAp.out.cell 2⟩
  go_wp2_with fail
  refine (HAD.out _ _ _ _ HNp.out).mono ?_
  rintro e vt ⟨u2, u3, rfl, hk, hb⟩
  obtain ⟨ta, tb, tc, td, x2, x3, _⟩ := nd_shape hk
  replace x2 : u2 = .slice ta 0 tc := x2
  replace x3 : u3 = .slice tb 0 td := x3
  subst x2 x3
  have hbn : Below vt.heap.size vt (vt.alloc (.cells #[.string nd0.nm, .slice ta 0 tc, .slice tb 0 td] 25)) := (Below.refl _ _).alloc (Nat.le_refl _) _
  have hb := hb.trans (hbn.mono hb.size)
  have HNt := Lib.hid (nd_below hk hbn)
  have HAt := Lib.hid (Arr.new vt 25 #[.string nd0.nm, .slice ta 0 tc, .slice tb 0 td])
  have HNr := Lib.hid (nd_below HNr.out hb)
  have HAr := Lib.hid (HAr.out.below hb HAr.out.lt)
  have HNs := Lib.hid (nd_below HNs.out hb)
  have HAs := Lib.hid (HAs.out.below hb HAs.out.lt)
  have HB0 := Lib.hid (HB0.out.trans (hb.mono HB0.out.size))
  clear hk hb hbn p0 p1 p2
  go_upto_region 6 with fail
  generalize vt.alloc (.cells #[.string nd0.nm, .slice ta 0 tc, .slice tb 0 td] 25) = W5 at *
  generalize vt.heap.size = t at *
  obtain ⟨r0, r1, r2⟩ : W5.cell? ⟨r, 0, none⟩ = some (.string (b17 [⟨⟨#[120]⟩, ⟨#[49]⟩⟩]).nm) ∧ W5.cell? ⟨r, 1, none⟩ = some (.slice ra 1 rc) ∧ W5.cell? ⟨r, 2, none⟩ = some (.slice rb 0 rd) := ⟨HAr.out.cell 0, HAr.out.cell 1, HAr.out.cell 2⟩
  obtain ⟨s0, s1, s2⟩ : W5.cell? ⟨s, 0, none⟩ = some (.string nd0.nm) ∧ W5.cell? ⟨s, 1, none⟩ = some (.slice sa 0 sc) ∧ W5.cell? ⟨s, 2, none⟩ = some (.slice sb 0 sd) := ⟨HAs.out.cell 0, HAs.out.cell 1, HAs.out.cell 2⟩
  clear HMK HST HFD HDR HAD
  go_wp2
  go_ret
  exact ⟨rfl, HB0.out⟩
end Go.Proofs.YtfcclppgjfkfoaaDoor

/- Append of a slice of tokens to one's own. Conditions: at most 2^40 tokens. -/
namespace Go.Proofs.YtfcclppgjfkfoaaDoor
open Go.RowKit

theorem tkL_app (l r : List TK) : tkL (l ++ r) = tkL l ++ tkL r := by simp [tkL]
theorem tkL_one (l : List TK) : ∀ u ∈ tkL l, u.oneCell' = true := by
  intro u hu
  simp only [tkL, List.mem_flatMap] at hu
  obtain ⟨x, _, hx⟩ := hu
  simp [tkl] at hx
  rcases hx with rfl | rfl | rfl <;> rfl
theorem run_append_nothing {P : Program} (w : World) (t ty e : TypeId) (i : TypeInfo) (ht : P.underlying t = some (.slice e)) (hi : P.info? e = some i) (A : Option Addr) (n c : Nat) (hc : n ≤ c) :
    (Builtin.append_ #[t, t] ty #[.slice A n c, .slice none 0 0]).run P w = .ok (.slice A n c) w := by
  cases A with
  | none => simp [Builtin.append_, run_underlying ht, sizeOf, typeInfo, hi, Builtin.lenOf, Builtin.firstCells, hc]
  | some a => simp [Builtin.append_, run_underlying ht, sizeOf, typeInfo, hi, Builtin.lenOf, Builtin.firstCells, hc, storeCells]
/-- 'l = append(l, r...)', r a slice of tokens of some call's own. -/
theorem append_tks {ops : Array Oper} {rest : List Oper} {o : Oper} {a : Act} {Q : Exit → Act → World → Prop} {w : World} (hgd : o.guard = none) (s y : Operand)
    (ho : o.op = .call { callee := .builtin .append, args := #[s, y], argTypes := #[31, 31] })
    (v u : Value) (l r : List TK) (B : Nat) (hs : a.eval s = v) (hown : w.ownsRow 0 36 3 v l.length (tkL l)) (hx : a.eval y = u) (hr : w.ownsRow B 36 3 u r.length (tkL r))
    (hn : l.length + r.length ≤ 1099511627776)
    (h : ∀ v' w', w'.ownsRow 0 36 3 v' (l ++ r).length (tkL (l ++ r)) → Moved w w' (ownS v) (ownS v') → wpList Tryd.prog ops Q rest (a.put o.dst v') w') : wpList Tryd.prog ops Q (o :: rest) a w := by
  have hinf : ((Tryd.prog.info? 36).map fun i => (i.zero, i.size, i.bytes)) = some (some (tkV tk0), 3, 40) := by kernel_rfl
  obtain ⟨i, hi, he⟩ := Option.map_eq_some_iff.1 hinf
  simp only [Prod.mk.injEq] at he
  rcases hr.2 with ⟨hu, hz⟩ | ⟨b, cap, cur, hu, _, hg, hnc, _, hcs, hx2⟩
  · have hr0 : r = [] := List.length_eq_zero_iff.1 hz
    subst hr0
    obtain ⟨A, cap, hv, hcap⟩ : ∃ A cap, v = .slice A l.length cap ∧ l.length ≤ cap := by
      rcases hown.2 with ⟨h1, h2⟩ | ⟨b, cap, cur, h1, _, _, h2, _⟩
      · exact ⟨none, 0, by rw [h1, h2], by omega⟩
      · exact ⟨_, cap, h1, h2⟩
    refine wpList_plain hgd fun K hK => ?_
    have hrun := run_append_nothing (P := Tryd.prog) w 31 o.type 36 i Tryd.underlying31 hi A l.length cap hcap
    unfold Oper.wp execOp
    simp only [ho, resolve, invoke, builtin, Sem.run_bind, Sem.run_pure, Result.andThen_ok, List.map_toArray, List.map_cons, List.map_nil, hs, hx, hu, hv, hrun]
    refine hK _ _ (h _ w ?_ ?_)
    · rw [List.append_nil, ← hv]; exact hown
    · rw [← hv]; exact Moved.refl _ _
  · refine wpList_append_own_at _ hgd s y 31 ho 0 36 i (tkV tk0) 3 40 Tryd.underlying31 hi he.1 he.2.1 he.2.2 rfl (by decide) v l.length (tkL l) hs hown ⟨b, 0, none⟩ r.length cap (tkL r) (hx.trans hu) (tkL_length r) ?_ (tkL_one r) (by unfold maxLen; omega) (by omega) (Nat.zero_le _) ?_
    · intro j u' hj
      have e : (⟨b, 0, none⟩ : Addr).add j = ⟨b, j, none⟩ := by unfold Addr.add; split <;> simp_all
      have hlt : j < r.length * 3 := by
        have := (List.getElem?_eq_some_iff.1 hj).1
        rw [tkL_length] at this; exact this
      rw [e, cell_of_row w b _ cur _ (0, 0) hg, ← hj, ← hx2, List.getElem?_take_of_lt hlt, Array.getElem?_toList]
    · intro v' w' ho' hg' _ hl
      refine h v' w' (by rw [tkL_app, List.length_append]; exact ho') (Moved.of_grown hg' ?_)
      rcases hl with hl | hl
      · exact .inl hl
      · exact .inr ⟨_, hl, Nat.le_refl _⟩
end Go.Proofs.YtfcclppgjfkfoaaDoor
