/- Sizes of trees that are encoded; what package encode must do, said over nothing of its code. No condition. -/
import Derived.Test.YtfcclppgjfkfoaaGreatDoorMg21
import Derived.Test.YtfcclppgjfkfoaaGreatDoorMg14
import Derived.Test.YtfcclppgjfkfoaaGreatDoorMg20
import Derived.Test.YtfcclppgjfkfoaaGreatDoorMg15
namespace Go.Proofs.YtfcclppgjfkfoaaGreatDoor
open Go.RowKit

/-- The tokens of a tree with few bytes in each part. -/
theorem tok_low : ∀ (j k : Nat) (n : ND), lowR j n = true → ∀ x ∈ tokR k n, x.nm.size ≤ 100 ∧ x.vl.size ≤ 300
  | 0, _, _, h => by cases h
  | _ + 1, 0, _, _ => fun x hx => absurd hx List.not_mem_nil
  | j + 1, k + 1, n, h => fun x hx => by
    have h' : x ∈ ((⟨1, n.nm, ByteArray.empty⟩ : TK) :: n.ps.map tokP) ++ n.ks.flatMap (tokR k) ++ [(⟨2, ByteArray.empty, ByteArray.empty⟩ : TK)] := hx
    rcases List.mem_append.1 h' with h' | h'
    · rcases List.mem_append.1 h' with h' | h'
      · rcases List.mem_cons.1 h' with rfl | h'
        · exact ⟨(low_parts h).1, Nat.zero_le _⟩
        · obtain ⟨p, hp, rfl⟩ := List.mem_map.1 h'
          have := of_decide_eq_true (low_props h p hp)
          exact this
      · obtain ⟨y, hy, hx⟩ := List.mem_flatMap.1 h'
        exact tok_low j k y (low_kids h y hy) x hx
    · rw [List.mem_singleton] at h'
      subst h'
      exact ⟨Nat.zero_le _, Nat.zero_le _⟩
theorem enOk_low {T : DT} (h : lowD T = true) : EnOk T := by
  obtain ⟨h1, h2⟩ := lowD_and h
  have hc := sz_count (sz_of_low h1)
  exact ⟨by omega, by omega, by omega, fun k hk => by
    have := tok_low 12 8 T.rt (low_and h1).1 _ (getD_mem (d := tk0) hk)
    omega, by unfold maxLen; omega⟩
/-- Spans, and a tree, of 64 bits. -/
def SpIn (l : List SP) : Prop := ∀ x ∈ l, in64 x.p ∧ in64 x.n
def DtIn (T : DT) : Prop := in64 T.bo ∧ SpIn T.rs
/-- A tree that was decoded of few bytes. -/
theorem dec_sizes {s : List UInt8} {T : DT} (hs : s.length ≤ 2048) (h : treeD s = (T, 0)) : EnOk T ∧ DtIn T := by
  obtain ⟨h0, hf, h16⟩ := treeD_ok h
  obtain ⟨d, hd⟩ : ∃ d, readH s = (d, 0) := ⟨_, Prod.ext rfl h0⟩
  obtain ⟨hm, hl1, hl2, hl3, hdo⟩ := readH_ok hd
  unfold treeD at h
  rw [hd, if_neg (by simp)] at h
  unfold bodyD at h
  split at h
  · rename_i h1; exact absurd (congrArg Prod.snd h) h1
  split at h
  · rename_i h1; exact absurd (congrArg Prod.snd h) h1
  split at h
  · rename_i h1; exact absurd (congrArg Prod.snd h) h1
  rename_i h1 h2 h3
  have hT := (Prod.mk.inj h).1
  clear h
  have hsl : (s.take d.tot.toNat).length ≤ 2048 := by rw [List.length_take]; omega
  simp only at h1 h2 h3 hT
  generalize s.take d.tot.toNat = s' at *
  have hpl := Nat.le_trans (partB_len s' d.stc d.siz) hsl
  generalize partB s' d.stc d.siz = pa at *
  generalize partB s' d.sgs d.txs = pb at *
  obtain ⟨l, hr⟩ : ∃ l, readR 1024 pa pb = (l, 0) := ⟨_, Prod.ext rfl (Decidable.not_not.1 h2)⟩
  rw [hr] at h3 hT
  simp only at h3 hT
  obtain ⟨n, ho⟩ : ∃ n, ofR l = (n, 0) := ⟨_, Prod.ext rfl (Decidable.not_not.1 h3)⟩
  obtain ⟨K, hK⟩ : ∃ K, resv s' d.rsv = (K, 0) := ⟨_, Prod.ext rfl (Decidable.not_not.1 h1)⟩
  rw [ho, hK] at hT
  simp only at hT
  subst hT
  obtain ⟨k1, k2⟩ := resv_ok hK
  obtain ⟨t1, -⟩ := tokens_of ho
  obtain ⟨-, -, w3, -, -, w6⟩ := read_put (by omega) hr
  have y2 := (say_w l).2
  have hcc := of_decide_eq_true hf
  simp only at hcc h16
  refine ⟨⟨by simp only; omega, by simp only; omega, by simp only; rw [t1]; omega, fun k hk => ?_, by simp only; unfold maxLen; omega⟩, ?_, fun x hx => ?_⟩
  · simp only at hk ⊢
    rw [t1] at hk ⊢
    obtain ⟨x, hx, e⟩ := say_mem (getD_mem (d := tk0) hk)
    rw [e]
    obtain ⟨j, hj, rfl⟩ := List.getElem_of_mem hx
    have := w3 j hj
    rw [List.getD_eq_getElem?_getD, List.getElem?_eq_getElem hj] at this
    simp only [Option.getD_some] at this
    unfold bare
    split
    · exact ⟨this.1, Nat.zero_le _⟩
    · split
      · exact this
      · exact ⟨Nat.zero_le _, Nat.zero_le _⟩
  · have := numAt_bd s 7
    simp only
    rw [hdo]
    show in64 (numAt s 7)
    unfold in64; omega
  · have := okSp_iff.1 (List.all_eq_true.1 k1 x hx)
    unfold in64; omega

/-- The contract of encode's Tree. -/
def EncTree : Prop := ∀ (T : DT) (v2 v3 : Value) (A : Option Addr) (cap : Nat) (w : World), EnOk T → DtIn T → DtAt w T v2 v3 A → Calls Tryz.prog 9 #[.agg (dtC T.rt.nm v2 v3 (.slice A T.rs.length cap) T.bo)] w fun e w' => e = .returned (.tuple #[.string ⟨(encR T).1.toArray⟩, .int .i64 ((encR T).2 : Int)]) ∧ Below w.heap.size w w'
/-- The tree that awake() takes. -/
def T15 : DT := ⟨.mk ⟨#[]⟩ [⟨⟨#[97]⟩, ⟨#[120]⟩⟩] [], [⟨4, 8⟩], 1⟩
theorem low15 : lowD T15 = true := by decide +kernel
theorem lowd0 : lowD dt0 = true := by decide +kernel
theorem in15 : DtIn T15 := ⟨by unfold in64 T15; decide, fun x hx => by
  rw [show T15.rs = [⟨4, 8⟩] from rfl, List.mem_singleton] at hx
  subst hx
  unfold in64; decide⟩
theorem ind0 : DtIn dt0 := ⟨by unfold in64 dt0; decide, fun x hx => absurd hx List.not_mem_nil⟩
theorem enc15 : (encR T15).2 = 0 := by kernel_rfl
theorem size0 : (encR dt0).1.length = 72 := by kernel_rfl
theorem res15 : resP [⟨0, 0⟩] = ([], 1) := by kernel_rfl
theorem dec15 : treeD (encR T15).1 = (T15, 0) := by
  have h := dec_enc (T := T15) (s := (encR T15).1) (m := []) (fun x hx => by have := tok_low 12 8 T15.rt (low_and (lowD_and low15).1).1 x hx; omega) (Prod.ext rfl enc15)
  rw [List.append_nil] at h
  exact h.2.2
theorem len15 : (encR T15).1.length ≤ 1000 := by
  have : decide ((encR T15).1.length ≤ 1000) = true := by kernel_rfl
  exact of_decide_eq_true this
end Go.Proofs.YtfcclppgjfkfoaaGreatDoor

/- WholeTree in plain words: a tree that was decoded of few bytes, and changed, is encoded. No condition: nothing of the program stands in it. -/
namespace Go.Proofs.YtfcclppgjfkfoaaGreatDoor
open Go.RowKit

theorem wS_app : ∀ (a b : List TK), wS (a ++ b) = wS a + wS b
  | [], b => by rw [List.nil_append, wS, Nat.zero_add]
  | x :: a, b => by rw [List.cons_append, wS, wS, wS_app a b]; omega
/-- The bytes of properties, and of kids. -/
def pW : List PR → Nat
  | [] => 0
  | x :: l => 12 + up4 x.vl.size + pW l
def kW (k : Nat) : List ND → Nat
  | [] => 0
  | x :: l => wS (tokR k x) + kW k l
theorem wS_props : ∀ l : List PR, wS (l.map tokP) = pW l
  | [] => rfl
  | x :: l => by
    rw [List.map_cons, wS, pW, wS_props l]
    show (if (3 : Int) = 1 then _ else if (3 : Int) = 3 then 12 + up4 x.vl.size else 4) + _ = _
    rw [if_neg (by decide), if_pos rfl]
theorem wS_kids (k : Nat) : ∀ l : List ND, wS (l.flatMap (tokR k)) = kW k l
  | [] => rfl
  | x :: l => by rw [List.flatMap_cons, wS_app, kW, wS_kids k l]
theorem wS_tok (k : Nat) (n : ND) : wS (tokR (k + 1) n) = 8 + up4 (n.nm.size + 1) + pW n.ps + kW k n.ks := by
  rw [tokR, wS_app, wS_app, wS_kids, wS, wS_props]
  show (if (1 : Int) = 1 then 4 + up4 (n.nm.size + 1) else _) + _ + _ + ((if (2 : Int) = 1 then _ else if (2 : Int) = 3 then _ else 4) + 0) = _
  rw [if_pos rfl, if_neg (by decide), if_neg (by decide)]
  omega
theorem pW_props {c : CH} (hv : c.vl.size ≤ 300) : ∀ l : List PR, pW (propsR c l).1 ≤ pW l + 312
  | [] => by
    unfold propsR
    split
    · have := up4_lt c.vl.size
      show 12 + up4 c.vl.size + 0 ≤ 0 + 312
      unfold up4; omega
    · exact Nat.zero_le _
  | x :: r => by
    have ih := pW_props hv r
    unfold propsR
    split
    · simp only
      split
      · rw [pW]; omega
      · show 12 + up4 c.vl.size + pW r ≤ 12 + up4 x.vl.size + pW r + 312
        unfold up4; omega
    · show 12 + up4 x.vl.size + pW (propsR c r).1 ≤ 12 + up4 x.vl.size + pW r + 312
      omega
theorem kW_app (k : Nat) : ∀ (a b : List ND), kW k (a ++ b) = kW k a + kW k b
  | [], b => by rw [List.nil_append, kW, Nat.zero_add]
  | x :: a, b => by rw [List.cons_append, kW, kW, kW_app k a b]; omega
theorem kW_without (k : Nat) {nm : ByteArray} : ∀ l : List ND, kW k (withoutR nm l) ≤ kW k l
  | [] => Nat.le_refl _
  | x :: r => by
    have ih := kW_without k (nm := nm) r
    rw [withoutR]
    split
    · rw [kW]; omega
    · rw [kW, kW]; omega
theorem kW_repl (j : Nat) {nm : ByteArray} {m k : ND} : ∀ {l : List ND}, (l.find? fun y => decide (y.nm = nm)) = some k → kW j (replR nm m l) + wS (tokR j k) = kW j l + wS (tokR j m)
  | [], h => absurd h (by simp)
  | x :: r, h => by
    rw [List.find?_cons] at h
    rw [replR]
    by_cases hx : x.nm = nm
    · rw [decide_eq_true hx] at h
      injection (show some x = some k from h) with h
      subst h
      rw [if_pos hx, kW, kW]
      omega
    · rw [decide_eq_false hx] at h
      rw [if_neg hx, kW, kW]
      have ih := kW_repl j (m := m) (l := r) h
      omega
/-- How many bytes a change adds. -/
def addW (c : CH) : Nat := if c.kd = 3 then 40 else 312
theorem here_w {c : CH} (hv : c.vl.size ≤ 300) {n : ND} (h : (hereR n c).2 = 0) (k : Nat) : wS (tokR k (hereR n c).1) ≤ wS (tokR k n) + addW c := by
  cases k with
  | zero => exact Nat.zero_le _
  | succ k =>
    have hp := pW_props (c := c) hv n.ps
    unfold addW
    unfold hereR at h ⊢
    by_cases h1 : c.kd = 1
    · rw [if_pos h1] at h ⊢
      rw [if_neg (show ¬ c.kd = 3 by omega)]
      split
      · rw [wS_tok, wS_tok]
        show 8 + up4 (n.nm.size + 1) + pW (propsR c n.ps).1 + kW k n.ks ≤ _
        omega
      · rename_i h2; rw [if_neg h2] at h; exact absurd h (by simp)
    · rw [if_neg h1] at h ⊢
      by_cases h2 : c.kd = 2
      · rw [if_pos h2] at h ⊢
        rw [if_neg (show ¬ c.kd = 3 by omega)]
        split
        · rw [wS_tok, wS_tok]
          show 8 + up4 (n.nm.size + 1) + pW (propsR c n.ps).1 + kW k n.ks ≤ _
          omega
        · rename_i h3; rw [if_neg h3] at h; exact absurd h (by simp)
      · rw [if_neg h2] at h ⊢
        by_cases h3 : c.kd = 3
        · rw [if_pos h3] at h ⊢
          rw [if_pos h3]
          split
          · rename_i h4; rw [if_pos h4] at h; exact absurd h (by simp)
          · rename_i h4
            rw [if_neg h4] at h
            split
            · rename_i h5; rw [if_pos h5] at h; exact absurd h (by simp)
            · have hm : mayB c.nm = true := by
                have : mayKidR c.nm = true := by simpa using h4
                unfold mayKidR at this
                rw [Bool.and_eq_true] at this
                exact this.1
              have hs := (mayB_iff.1 hm).2.1
              have hl : wS (tokR k (.mk c.nm [] [])) ≤ 40 := by
                cases k with
                | zero => exact Nat.zero_le _
                | succ k =>
                  rw [wS_tok]
                  show 8 + up4 (c.nm.size + 1) + 0 + 0 ≤ 40
                  unfold up4; omega
              rw [wS_tok, wS_tok]
              show 8 + up4 (n.nm.size + 1) + pW n.ps + kW k (n.ks ++ [.mk c.nm [] []]) ≤ _
              rw [kW_app]
              show 8 + up4 (n.nm.size + 1) + pW n.ps + (kW k n.ks + (wS (tokR k (.mk c.nm [] [])) + 0)) ≤ _
              omega
        · rw [if_neg h3] at h ⊢
          rw [if_neg h3]
          split
          · rw [wS_tok, wS_tok]
            have := kW_without k (nm := c.nm) n.ks
            show 8 + up4 (n.nm.size + 1) + pW n.ps + kW k (withoutR c.nm n.ks) ≤ _
            omega
          · rename_i h5; rw [if_neg h5] at h; exact absurd h (by simp)
theorem down_w {c : CH} (hv : c.vl.size ≤ 300) : ∀ (l : List ByteArray) (n : ND) (k : Nat), (downR n l c).2 = 0 → wS (tokR k (downR n l c).1) ≤ wS (tokR k n) + addW c
  | [], n, k, h => here_w hv h k
  | x :: l, n, 0, _ => Nat.zero_le _
  | x :: l, n, k + 1, h => by
    unfold downR at h ⊢
    cases e : kidR n x with
    | none => rw [e] at h; exact absurd h (by simp)
    | some q =>
      rw [e] at h
      by_cases h0 : (downR q l c).2 = 0
      · simp only [if_pos h0]
        have ih := down_w hv l q k h0
        have hr := kW_repl k (m := (downR q l c).1) (show (n.ks.find? fun y => decide (y.nm = x)) = some q from e)
        rw [wS_tok, wS_tok]
        show 8 + up4 (n.nm.size + 1) + pW n.ps + kW k (replR x (downR q l c).1 n.ks) ≤ 8 + up4 (n.nm.size + 1) + pW n.ps + kW k n.ks + addW c
        omega
      · simp only [if_neg h0] at h; exact absurd h h0

/-- May each name of so many levels stand in tokens? -/
def goodR : Nat → ND → Prop
  | 0, _ => True
  | k + 1, n => nodeB n.nm = true ∧ (∀ x ∈ n.ps, mayB x.nm = true) ∧ ∀ x ∈ n.ks, goodR k x
theorem good_tok : ∀ (k : Nat) (n : ND), goodR k n → (tokR k n).all okT = true
  | 0, _, _ => rfl
  | k + 1, n, h => by
    obtain ⟨h1, h2, h3⟩ := h
    rw [tokR, List.all_append, List.all_append, List.all_cons, List.all_map, Bool.and_eq_true, Bool.and_eq_true, Bool.and_eq_true, List.all_eq_true, List.all_eq_true]
    refine ⟨⟨⟨h1, fun x hx => h2 x hx⟩, fun x hx => ?_⟩, rfl⟩
    obtain ⟨y, hy, hx⟩ := List.mem_flatMap.1 hx
    exact List.all_eq_true.1 (good_tok k y (h3 y hy)) x hx
theorem tok_good : ∀ (k : Nat) (n : ND), (tokR k n).all okT = true → goodR k n
  | 0, _, _ => trivial
  | k + 1, n, h => by
    rw [tokR, List.all_append, List.all_append, List.all_cons, List.all_map, Bool.and_eq_true, Bool.and_eq_true, Bool.and_eq_true, List.all_eq_true, List.all_eq_true] at h
    obtain ⟨⟨⟨h1, h2⟩, h3⟩, _⟩ := h
    exact ⟨h1, fun x hx => h2 x hx, fun x hx => tok_good k x (List.all_eq_true.2 fun y hy => h3 y (List.mem_flatMap.2 ⟨x, hx, hy⟩))⟩
theorem may_node {s : ByteArray} (h : mayB s = true) : nodeB s = true := by
  unfold nodeB
  rw [h, Bool.or_true]
theorem props_good {c : CH} (hc : c.kd = 1 → mayB c.nm = true) : ∀ {l : List PR}, (∀ x ∈ l, mayB x.nm = true) → ∀ x ∈ (propsR c l).1, mayB x.nm = true
  | [], _, x, hx => by
    unfold propsR at hx
    split at hx
    · rename_i h1
      rw [List.mem_singleton] at hx
      rw [hx]; exact hc h1
    · exact absurd hx List.not_mem_nil
  | y :: r, h, x, hx => by
    have hr := props_good hc (l := r) fun z hz => h z (List.mem_cons_of_mem _ hz)
    have hy := h y List.mem_cons_self
    unfold propsR at hx
    split at hx
    · simp only at hx
      split at hx
      · exact h x (List.mem_cons_of_mem _ hx)
      · rcases List.mem_cons.1 hx with hx | hx
        · rw [hx]; exact hy
        · exact h x (List.mem_cons_of_mem _ hx)
    · rcases List.mem_cons.1 hx with hx | hx
      · rw [hx]; exact hy
      · exact hr x hx
theorem here_good {c : CH} {n : ND} (h : (hereR n c).2 = 0) (k : Nat) (hg : goodR k n) : goodR k (hereR n c).1 := by
  cases k with
  | zero => trivial
  | succ k =>
    obtain ⟨g1, g2, g3⟩ := hg
    unfold hereR at h ⊢
    by_cases h1 : c.kd = 1
    · rw [if_pos h1] at h ⊢
      split
      · rename_i h2
        exact ⟨g1, props_good (fun _ => h2) g2, g3⟩
      · rename_i h2; rw [if_neg h2] at h; exact absurd h (by simp)
    · rw [if_neg h1] at h ⊢
      by_cases h2 : c.kd = 2
      · rw [if_pos h2] at h ⊢
        split
        · exact ⟨g1, props_good (fun e => absurd e h1) g2, g3⟩
        · rename_i h3; rw [if_neg h3] at h; exact absurd h (by simp)
      · rw [if_neg h2] at h ⊢
        by_cases h3 : c.kd = 3
        · rw [if_pos h3] at h ⊢
          split
          · rename_i h4; rw [if_pos h4] at h; exact absurd h (by simp)
          · rename_i h4
            rw [if_neg h4] at h
            split
            · rename_i h5; rw [if_pos h5] at h; exact absurd h (by simp)
            · have hm : mayB c.nm = true := by
                have : mayKidR c.nm = true := by simpa using h4
                unfold mayKidR at this
                rw [Bool.and_eq_true] at this
                exact this.1
              refine ⟨g1, g2, fun x hx => ?_⟩
              rcases List.mem_append.1 hx with hx | hx
              · exact g3 x hx
              · rw [List.mem_singleton] at hx
                rw [hx]
                cases k with
                | zero => trivial
                | succ k => exact ⟨may_node hm, fun _ h => absurd h List.not_mem_nil, fun _ h => absurd h List.not_mem_nil⟩
        · rw [if_neg h3] at h ⊢
          split
          · exact ⟨g1, g2, fun x hx => g3 x (mem_without hx)⟩
          · rename_i h5; rw [if_neg h5] at h; exact absurd h (by simp)
theorem down_good {c : CH} : ∀ (l : List ByteArray) (n : ND) (k : Nat), (downR n l c).2 = 0 → goodR k n → goodR k (downR n l c).1
  | [], n, k, h, hg => here_good h k hg
  | x :: l, n, 0, _, _ => trivial
  | x :: l, n, k + 1, h, hg => by
    unfold downR at h ⊢
    cases e : kidR n x with
    | none => rw [e] at h; exact absurd h (by simp)
    | some q =>
      rw [e] at h
      by_cases h0 : (downR q l c).2 = 0
      · simp only [if_pos h0]
        obtain ⟨g1, g2, g3⟩ := hg
        refine ⟨g1, g2, fun y hy => ?_⟩
        rcases mem_repl hy with hy | hy
        · rw [hy]; exact down_good l q k h0 (g3 q (kid_mem e))
        · exact g3 y hy
      · simp only [if_neg h0] at h; exact absurd h h0
/-- What a change that is done leaves. -/
def Stays (n m : ND) (d : Nat) : Prop := fitsR m = true ∧ (goodR 8 n → goodR 8 m) ∧ wS (tokR 8 m) ≤ wS (tokR 8 n) + d
theorem doN_stays {n m : ND} {l : List ByteArray} {c : CH} (hv : c.vl.size ≤ 300) (h : doN n l c = (m, 0)) : Stays n m (addW c) := by
  obtain ⟨h0, e, hf⟩ := doN_ok h
  refine ⟨hf, fun hg => ?_, ?_⟩
  · rw [e]; exact down_good l n 8 h0 hg
  · rw [e]; exact down_w hv l n 8 h0
theorem do_stays {n m : ND} {p : List UInt8} {c : CH} (hv : c.vl.size ≤ 300) (h : doR17 n p c = (m, 0)) : Stays n m 312 := by
  cases hp : (partsR p).2 with
  | false => rw [do_no hp] at h; injection h with _ h; exact absurd h (by decide)
  | true =>
    rw [do_doN hp] at h
    obtain ⟨h1, h2, h3⟩ := doN_stays hv h
    refine ⟨h1, h2, Nat.le_trans h3 (Nat.add_le_add_left ?_ _)⟩
    unfold addW
    split <;> omega
theorem drop_stays {n m : ND} {p : List UInt8} (h : dropR17 n p = (m, 0)) : Stays n m 312 := by
  unfold dropR17 at h
  split at h
  · unfold dropN at h
    split at h
    · injection h with _ h; exact absurd h (by decide)
    · exact doN_stays (by show (0 : Nat) ≤ 300; decide) h
  · injection h with _ h; exact absurd h (by decide)
theorem makeN_stays : ∀ (r : List ByteArray) (n : ND) (d : List ByteArray) (m : ND), makeN n d r = (m, 0) → Stays n m (40 * r.length)
  | [], n, d, m, h => by
    obtain ⟨e, hf⟩ := fits_of (show fitsTo n = (m, 0) from h)
    subst e
    exact ⟨hf, id, Nat.le_add_right _ _⟩
  | x :: r, n, d, m, h => by
    rw [makeN] at h
    rw [List.length_cons]
    split at h
    · obtain ⟨h1, h2, h3⟩ := makeN_stays r n _ m h
      exact ⟨h1, h2, by omega⟩
    · split at h
      · rename_i h0
        obtain ⟨q, hq⟩ : ∃ q, doN n d ⟨3, x, ByteArray.empty⟩ = (q, 0) := ⟨_, Prod.ext rfl h0⟩
        rw [hq] at h
        obtain ⟨h1, h2, h3⟩ := makeN_stays r q _ m h
        obtain ⟨q1, q2, q3⟩ := doN_stays (by show (0 : Nat) ≤ 300; decide) hq
        have e : addW ⟨3, x, ByteArray.empty⟩ = 40 := if_pos rfl
        rw [e] at q3
        exact ⟨h1, fun g => h2 (q2 g), by omega⟩
      · rename_i h0
        injection h with _ h
        exact absurd h h0
theorem make_stays {n m : ND} {p : List UInt8} (h : makeR17 n p = (m, 0)) : Stays n m 312 := by
  unfold makeR17 at h
  split at h
  · obtain ⟨h1, h2, h3⟩ := makeN_stays _ n [] m h
    have h7 := parts_few p
    have hl : (baL (partsR p).1).length = (partsR p).1.length := by unfold baL; rw [List.length_map]
    rw [hl] at h3
    exact ⟨h1, h2, by omega⟩
  · injection h with _ h; exact absurd h (by decide)
end Go.Proofs.YtfcclppgjfkfoaaGreatDoor

/- Trees that fit, with names that may be told and not too many bytes, are encoded, and decoded, as they are; a tree that was decoded of few bytes is such a one. No condition: nothing of the program stands in it. -/
namespace Go.Proofs.YtfcclppgjfkfoaaGreatDoor
open Go.RowKit

theorem qS_app : ∀ (a b : List TK), qS (a ++ b) = qS a + qS b
  | [], b => by rw [List.nil_append, qS, Nat.zero_add]
  | x :: a, b => by rw [List.cons_append, qS, qS, qS_app a b]; omega
theorem qS_props : ∀ l : List PR, qS (l.map tokP) = l.length
  | [] => rfl
  | x :: l => by
    rw [List.map_cons, qS, qS_props l, List.length_cons]
    show (if (3 : Int) = 3 then 1 else 0) + _ = _
    rw [if_pos rfl]; omega
theorem q_count : ∀ (k : Nat) (n : ND), qS (tokR k n) ≤ (countR k n).b
  | 0, _ => Nat.zero_le _
  | k + 1, n => by
    have hk : ∀ l : List ND, qS (l.flatMap (tokR k)) ≤ (csum k l).b := by
      intro l
      induction l with
      | nil => exact Nat.zero_le _
      | cons x l ih =>
        have e := csum_cons k x l
        have := q_count k x
        rw [List.flatMap_cons, qS_app]; omega
    have h1 := hk n.ks
    rw [tokR, qS_app, qS_app, qS, qS_props, countR_succ]
    show (if (1 : Int) = 3 then 1 else 0) + n.ps.length + qS (n.ks.flatMap (tokR k)) + ((if (2 : Int) = 3 then 1 else 0) + 0) ≤ n.ps.length + (csum k n.ks).b
    rw [if_neg (by decide), if_neg (by decide)]
    omega
theorem w_mem : ∀ {l : List TK} {x : TK}, x ∈ l → wT x ≤ wS l
  | y :: l, x, h => by
    rw [wS]
    rcases List.mem_cons.1 h with h | h
    · rw [h]; omega
    · have := w_mem h; omega
theorem vl_w : ∀ (k : Nat) (n : ND), ∀ x ∈ tokR k n, x.vl.size ≤ wT x
  | 0, _, _, h => absurd h List.not_mem_nil
  | k + 1, n, x, h => by
    rw [tokR] at h
    rcases List.mem_append.1 h with h | h
    · rcases List.mem_append.1 h with h | h
      · rcases List.mem_cons.1 h with rfl | h
        · exact Nat.zero_le _
        · obtain ⟨p, _, rfl⟩ := List.mem_map.1 h
          have := up4_ge p.vl.size
          show p.vl.size ≤ (if (3 : Int) = 1 then _ else if (3 : Int) = 3 then 12 + up4 p.vl.size else 4)
          rw [if_neg (by decide), if_pos rfl]; omega
      · obtain ⟨m, _, hm⟩ := List.mem_flatMap.1 h
        exact vl_w k m x hm
    · rw [List.mem_singleton.1 h]; exact Nat.zero_le _
/-- A tree that may be told: it fits, its names may stand there, its bytes are not too many. -/
structure Told (T : DT) (W : Nat) : Prop where
  fit : fitsR T.rt = true
  good : goodR 8 T.rt
  w : wS (tokR 8 T.rt) ≤ W
  few : T.rs.length ≤ 16
  sp : T.rs.all okSp = true
  b0 : 0 ≤ T.bo
  b1 : T.bo ≤ 4294967295
theorem told_enc {T : DT} {W : Nat} (h : Told T W) (hW : W ≤ 6000) : ∃ b, encR T = (b, 0) ∧ b.length ≤ 16384 ∧ ∀ m, readH (b ++ m) = ((readH (b ++ m)).1, 0) ∧ (readH (b ++ m)).1.tot = b.length ∧ treeD (b ++ m) = (T, 0) := by
  have hlen : ¬ 1024 ≤ (tokR 8 T.rt).length := by have := (sz_count (sz_of_fits h.fit)).2.2.2; omega
  have hall := good_tok 8 T.rt h.good
  have hput : putR (tokR 8 T.rt) = (⟨(putS [] (tokR 8 T.rt) ++ big 9).toArray⟩, ⟨(flat (putB [] (tokR 8 T.rt))).toArray⟩, 0) := putR_good hlen hall
  have q1 := putS_w (tokR 8 T.rt) []
  have q2 := putB_q (tokR 8 T.rt) []
  have q3 := flat_le (okL_putB (tokR 8 T.rt) okL_nil)
  have q4 := q_count 8 T.rt
  rw [List.length_nil] at q2
  obtain ⟨f1, f2, f3⟩ := of_decide_eq_true (show decide ((countR 9 T.rt).a ≤ 64 ∧ (countR 9 T.rt).b ≤ 256 ∧ (countR 9 T.rt).c ≤ 8) = true from h.fit)
  have q5 := (count_le T.rt 1 8).2
  rw [show 8 + 1 = 9 from rfl] at q5
  have hw := h.w
  have hrP : resP T.rs = (spB T.rs ++ endB, 0) := by unfold resP; rw [if_neg (by have := h.few; omega), if_pos h.sp]
  have hrl : (spB T.rs ++ endB).length = 16 * T.rs.length + 16 := by rw [List.length_append, spB_len, show endB.length = 16 from rfl]; omega
  have hal : (⟨(putS [] (tokR 8 T.rt) ++ big 9).toArray⟩ : ByteArray).size = wS (tokR 8 T.rt) + 4 := by rw [size_mk, List.length_append, q1, big_len]
  have hbl : (⟨(flat (putB [] (tokR 8 T.rt))).toArray⟩ : ByteArray).size ≤ 8192 := by rw [size_mk]; omega
  have hfew := h.few
  have hb0 := h.b0
  have hb1 := h.b1
  have hex : ∃ b, encR T = (b, 0) := by
    unfold encR
    rw [if_neg (by omega), if_neg (by rw [h.fit]; simp), hrP, hput]
    simp only
    rw [if_neg (by simp), if_neg (by simp), hrl, hal]
    generalize (⟨(flat (putB [] (tokR 8 T.rt))).toArray⟩ : ByteArray).size = bl at *
    generalize wS (tokR 8 T.rt) = al at *
    have u1 := up4_ge (40 + (16 * T.rs.length + 16) + (al + 4) + bl)
    have u2 := up4_lt (40 + (16 * T.rs.length + 16) + (al + 4) + bl)
    have hput2 : (putH (headE (16 * T.rs.length + 16) (al + 4) bl T.bo)).2 = 0 := by
      unfold putH
      rw [if_pos]
      refine ⟨mayH_iff.2 ?_, ?_⟩
      · unfold headE
        simp only
        refine ⟨?_, ?_, ?_, ?_, ?_, ?_, ?_, ?_, ?_, ?_, ?_, ?_, ?_, ?_, ?_⟩ <;> omega
      · unfold headE
        simp only
        omega
    rw [if_neg (by omega), if_neg (by rw [hput2]; simp)]
    exact ⟨_, rfl⟩
  obtain ⟨b, hb⟩ := hex
  have hv : ∀ x ∈ tokR 8 T.rt, x.vl.size ≤ 1048576 := fun x hx => by
    have h1 := vl_w 8 T.rt x hx
    have h2 := w_mem hx
    omega
  refine ⟨b, hb, ?_, fun m => dec_enc hv hb⟩
  have h0 := dec_enc (m := []) hv hb
  rw [List.append_nil] at h0
  obtain ⟨hm, hl1, hl2, hl3, -⟩ := readH_ok h0.1
  have := h0.2.1
  have hm := mayH_iff.1 hm
  omega
/-- A tree that was decoded of few bytes. -/
theorem told_dec {s : List UInt8} {T : DT} (hs : s.length ≤ 2048) (h : treeD s = (T, 0)) : Told T 2044 := by
  obtain ⟨h0, hf, -⟩ := treeD_ok h
  obtain ⟨d, hd⟩ : ∃ d, readH s = (d, 0) := ⟨_, Prod.ext rfl h0⟩
  obtain ⟨hm, hl1, hl2, hl3, -⟩ := readH_ok hd
  have hm := mayH_iff.1 hm
  unfold treeD at h
  rw [hd, if_neg (by simp)] at h
  unfold bodyD at h
  split at h
  · rename_i h1; exact absurd (congrArg Prod.snd h) h1
  split at h
  · rename_i h1; exact absurd (congrArg Prod.snd h) h1
  split at h
  · rename_i h1; exact absurd (congrArg Prod.snd h) h1
  rename_i h1 h2 h3
  have hT := (Prod.mk.inj h).1
  clear h
  have hsl : (s.take d.tot.toNat).length ≤ 2048 := by rw [List.length_take]; omega
  simp only at h1 h2 h3 hT
  generalize s.take d.tot.toNat = s' at *
  have hpl := Nat.le_trans (partB_len s' d.stc d.siz) hsl
  generalize partB s' d.stc d.siz = pa at *
  generalize partB s' d.sgs d.txs = pb at *
  obtain ⟨l, hr⟩ : ∃ l, readR 1024 pa pb = (l, 0) := ⟨_, Prod.ext rfl (Decidable.not_not.1 h2)⟩
  rw [hr] at h3 hT
  simp only at h3 hT
  obtain ⟨n, ho⟩ : ∃ n, ofR l = (n, 0) := ⟨_, Prod.ext rfl (Decidable.not_not.1 h3)⟩
  obtain ⟨K, hK⟩ : ∃ K, resv s' d.rsv = (K, 0) := ⟨_, Prod.ext rfl (Decidable.not_not.1 h1)⟩
  rw [ho, hK] at hT
  simp only at hT
  subst hT
  obtain ⟨k1, k2⟩ := resv_ok hK
  obtain ⟨t1, -⟩ := tokens_of ho
  obtain ⟨w1, w2⟩ := readR_ok 1024 pa pb l hr
  have w3 := read_w 1024 pa pb l hr
  obtain ⟨y1, y2⟩ := say_w l
  have hall : (tokR 8 n).all okT = true := by
    rw [t1]
    refine List.all_eq_true.2 fun y hy => ?_
    obtain ⟨x, hx, rfl⟩ := say_mem hy
    rw [(w2 x hx).2.1]; exact (w2 x hx).1
  exact ⟨hf, tok_good 8 n hall, by show wS (tokR 8 n) ≤ _; rw [t1]; omega, k2, k1, by show 0 ≤ d.boo; omega, by show d.boo ≤ _; omega⟩
theorem told_next {T : DT} {W d : Nat} {m : ND} (h : Told T W) (hs : Stays T.rt m d) : Told ⟨m, T.rs, T.bo⟩ (W + d) :=
  ⟨hs.1, hs.2.1 h.good, Nat.le_trans hs.2.2 (Nat.add_le_add_right h.w _), h.few, h.sp, h.b0, h.b1⟩
theorem nm_ok : ∀ (k : Nat) (n : ND), goodR k n → ∀ x ∈ tokR k n, x.nm.size ≤ 31
  | 0, _, _, _, h => absurd h List.not_mem_nil
  | k + 1, n, hg, x, h => by
    obtain ⟨g1, g2, g3⟩ := hg
    have hn : ∀ s : ByteArray, nodeB s = true → s.size ≤ 31 := fun s h => by
      unfold nodeB at h
      rw [Bool.or_eq_true] at h
      rcases h with h | h
      · have := of_decide_eq_true h; omega
      · exact (mayB_iff.1 h).2.1
    rw [tokR] at h
    rcases List.mem_append.1 h with h | h
    · rcases List.mem_append.1 h with h | h
      · rcases List.mem_cons.1 h with rfl | h
        · exact hn _ g1
        · obtain ⟨p, hp, rfl⟩ := List.mem_map.1 h
          exact (mayB_iff.1 (g2 p hp)).2.1
      · obtain ⟨m, hm, hx⟩ := List.mem_flatMap.1 h
        exact nm_ok k m (g3 m hm) x hx
    · rw [List.mem_singleton.1 h]; exact Nat.zero_le _
theorem told_sz {T : DT} {W : Nat} (h : Told T W) (hW : W ≤ 6000) : (countR 9 T.rt).a ≤ 64 ∧ (countR 9 T.rt).b ≤ 256 ∧ (tokR 8 T.rt).length ≤ 800 ∧ (∀ x ∈ tokR 8 T.rt, x.nm.size ≤ 31 ∧ x.vl.size ≤ 6000) ∧ T.rs.length ≤ 16 ∧ (∀ x ∈ T.rs, 0 ≤ x.p ∧ x.p ≤ 4294967295 ∧ 0 ≤ x.n ∧ x.n ≤ 4294967295) := by
  obtain ⟨f1, f2, f3⟩ := of_decide_eq_true (show decide ((countR 9 T.rt).a ≤ 64 ∧ (countR 9 T.rt).b ≤ 256 ∧ (countR 9 T.rt).c ≤ 8) = true from h.fit)
  refine ⟨f1, f2, (sz_count (sz_of_fits h.fit)).2.2.2, fun x hx => ⟨nm_ok 8 T.rt h.good x hx, ?_⟩, h.few, fun x hx => ?_⟩
  · have h1 := vl_w 8 T.rt x hx
    have h2 := w_mem hx
    have h3 := h.w
    omega
  · have := okSp_iff.1 (List.all_eq_true.1 h.sp x hx)
    omega
end Go.Proofs.YtfcclppgjfkfoaaGreatDoor
