/- What the document's zeros, Node, begin and pad return. Conditions: strings of at most 2^40 bytes. -/
import Derived.Test.YtmgmpjgofolkgaaMg13
import Derived.Test.YtmgmpjgofolkgaaMg4
import Derived.Test.YtmgmpjgofolkgaaMg0
import Derived.Test.YtmgmpjgofolkgaaMg14
import Derived.Test.YtmgmpjgofolkgaaProg
import Derived.Test.YtmgmpjgofolkgaaMg8
import Derived.WalkKit
import Derived.WalkSpells
import Derived.Deep.RegionHeld3
import Derived.Deep.WholeRow
namespace Go.Proofs.Ytmgmpjgofolkgaa
open Go.RowKit

theorem byte_at (s : ByteArray) (k : Nat) (h : k < s.size) : s.data.toList.getD k 0 = s[k] := by rw [List.getD_eq_getElem?_getD, List.getElem?_eq_getElem (by simpa using h)]; rfl

set_option maxHeartbeats 800000 in
set_option maxRecDepth 100000 in
theorem rzeros_any (s : ByteArray) (w : World) (hl : s.size ≤ maxLen) : Calls Try.prog 47 #[.string s] w fun e w' => e = .returned (.bool (zerosB s.data.toList)) ∧ w = w' := by
  have hlen : s.data.toList.length = s.size := rfl
  unfold maxLen at hl
  have HF : Hid (∀ k, k < s.size → s.data.toList.getD k 0 ≠ 0 → zerosB s.data.toList = false) := by
    intro k hk h0
    cases e : zerosB s.data.toList with
    | false => rfl
    | true =>
      unfold zerosB at e
      rw [List.all_eq_true] at e
      refine absurd (of_decide_eq_true (e (s.data.toList.getD k 0) ?_)) h0
      rw [List.getD_eq_getElem?_getD, List.getElem?_eq_getElem (by omega)]
      exact List.getElem_mem _
  have HN : Hid ((∀ j, j < s.size → s.data.toList.getD j 0 = 0) → zerosB s.data.toList = true) := by
    intro hj
    unfold zerosB
    rw [List.all_eq_true]
    intro b hb
    obtain ⟨k, hk, rfl⟩ := List.getElem_of_mem hb
    have := hj k (by omega)
    rw [List.getD_eq_getElem?_getD, List.getElem?_eq_getElem hk] at this
    exact decide_eq_true this
  generalize zerosB s.data.toList = R at *
  go_enter Try.func47, Try.ntmps47
  go_wp2
  go_loop [3] (fun i => ∃ k : Nat, k ≤ s.size ∧ i = .int .i64 k ∧ Hid (∀ j, j < k → s.data.toList.getD j 0 = 0)) (fun i => s.size - (intOf i).toNat)
  case atStart => exact ⟨0, Nat.zero_le _, rfl, fun j h1 => absurd h1 (by omega)⟩
  case round =>
    obtain ⟨k, hk2, rfl, HK⟩ := hrel
    by_cases hlt : k < s.size
    · have hki : (k : Int) < s.size := by omega
      have hk0 : (0 : Int) ≤ k := by omega
      have HGB := Lib.hid (byte_at s k hlt)
      by_cases hz : s[k] = 0
      · have d2 : ((s[k].toNat : Int) != 0) = false := by rw [hz]; rfl
        have HK1 : Hid (∀ j, j < k + 1 → s.data.toList.getD j 0 = 0) := fun j h2 => by
          by_cases e : j = k
          · subst e; rw [HGB.out]; exact hz
          · exact HK.out j (by omega)
        clear hz
        go_wp2
        go_round
        case rel => exact ⟨k + 1, by omega, by go_num, HK1⟩
        case measure => simp [intOf]; omega
      · have HE := Lib.hid (HF.out k hlt (by rw [HGB.out]; exact hz))
        have d2 : ((s[k].toNat : Int) != 0) = true := by
          have : s[k].toNat ≠ 0 := fun e => hz (UInt8.toNat_inj.1 e)
          simp; omega
        clear hz HF HN
        go_wp2
        go_ret
        exact ⟨by rw [HE.out]; rfl, rfl⟩
    · obtain rfl : k = s.size := by omega
      have HE := Lib.hid (HN.out HK.out)
      clear HF HN
      go_wp2
      go_ret
      exact ⟨by rw [HE.out]; rfl, rfl⟩

set_option maxHeartbeats 800000 in
set_option maxRecDepth 100000 in
theorem rnode_any (s : ByteArray) (w : World) (hl : s.size ≤ maxLen) : Calls Try.prog 46 #[.string s] w fun e w' => e = .returned (.bool (nodeB s)) ∧ w = w' := by
  have HM := Lib.hid (rmay_any s w hl)
  unfold nodeB
  have hd : decide (s = ByteArray.empty) = decide (s.size = 0) := by
    by_cases h : s.size = 0
    · have : s = ByteArray.empty := by
        cases s with | mk d => cases d with | mk l => cases l with | nil => rfl | cons a r => cases h
      rw [decide_eq_true h, decide_eq_true this]
    · rw [decide_eq_false h, decide_eq_false (fun e => h (by rw [e]; rfl))]
  have hs : (s.toList == ByteArray.empty.toList) = decide (s.size = 0) := by rw [str_eq, hd]
  by_cases h : s.size = 0
  · rw [decide_eq_true h] at hs ⊢
    have h2 : s.toList = [] := by simpa using hs
    have h3 : s.toList.isEmpty = true := by rw [h2]; rfl
    clear hd h
    go_enter Try.func46, Try.ntmps46
    go_wp2
    go_ret
    exact ⟨rfl, rfl⟩
  · rw [decide_eq_false h] at hs ⊢
    have h2 : ¬ s.toList = [] := fun e => by rw [e] at hs; simp at hs
    have h3 : s.toList.isEmpty = false := by cases e : s.toList with
      | nil => exact absurd e h2
      | cons a r => rfl
    clear hd h
    generalize mayB s = m at *
    go_enter Try.func46, Try.ntmps46
    go_wp2_with fail
    refine HM.out.mono ?_
    rintro e w1 ⟨rfl, rfl⟩
    go_wp2
    go_ret
    exact ⟨rfl, rfl⟩

theorem up_of (n : Nat) (h : n ≤ 9007199254740992) : upOf (n : Int) = (up4 n : Int) := by unfold upOf up4; rw [if_neg (by omega)]; omega
/-- How begin's three ends are told. -/
theorem beginR_short {l : List UInt8} (h : l.length ≤ z0 l ∨ l.length < up4 (z0 l + 1)) : beginR l = (ByteArray.empty, 0, 14) := by unfold beginR; rw [if_pos h]
theorem beginR_long {l : List UInt8} (h : ¬ (l.length ≤ z0 l ∨ l.length < up4 (z0 l + 1))) : beginR l = if (nodeB ⟨(l.take (z0 l)).toArray⟩ && zerosB ((l.take (up4 (z0 l + 1))).drop (z0 l))) = true then (⟨(l.take (z0 l)).toArray⟩, up4 (z0 l + 1), 0) else (ByteArray.empty, 0, 6) := by unfold beginR; rw [if_neg h]
theorem cut_head (s : ByteArray) (k : Nat) : s.extract 0 k = ⟨(s.data.toList.take k).toArray⟩ := by rw [ba_eq (s.extract 0 k), ext_list, List.drop_zero]

set_option maxHeartbeats 1600000 in
set_option maxRecDepth 100000 in
theorem rbegin_any (s : ByteArray) (w : World) (hl : s.size ≤ 1099511627776) :
    Calls Try.prog 32 #[.string s] w fun e w' => e = .returned (.tuple #[.string (beginR s.data.toList).1, .int .i64 ((beginR s.data.toList).2.1 : Int), .int .i64 ((beginR s.data.toList).2.2 : Int)]) ∧ w = w' := by
  have hlen : s.data.toList.length = s.size := rfl
  have hzl := z0_le s.data.toList
  have HZ1 : Hid (∀ k, k < s.size → (∀ j, j < k → s.data.toList.getD j 0 ≠ 0) → s.data.toList.getD k 0 = 0 → z0 s.data.toList = k) := fun k hk hj h0 => z0_eq _ k (by omega) h0 hj
  have HZ2 : Hid ((∀ j, j < s.size → s.data.toList.getD j 0 ≠ 0) → z0 s.data.toList = s.size) := fun hj => z0_none _ (fun j h => hj j (by omega))
  have HSH := Lib.hid (beginR_short (l := s.data.toList))
  have HLO := Lib.hid (beginR_long (l := s.data.toList))
  rw [hlen] at HSH HLO hzl
  rw [← cut_head s (z0 s.data.toList), ← ext_list] at HLO
  have HUP : Hid (∀ (n : Nat) (W : World), n ≤ 1099511627777 → Calls Try.prog 45 #[.int .i64 (n : Int)] W fun e w' => e = .returned (.int .i64 (up4 n : Int)) ∧ W = w') := fun n W h => by
    have := refup_any (n : Int) W
    rwa [up_of n (by omega)] at this
  have HUG : Hid (∀ n, n ≤ up4 n ∧ up4 n < n + 4) := fun n => ⟨up4_ge n, up4_lt n⟩
  have HND := Lib.hid (fun (t : ByteArray) (W : World) (h : t.size ≤ maxLen) => rnode_any t W h)
  have HZE := Lib.hid (fun (t : ByteArray) (W : World) (h : t.size ≤ maxLen) => rzeros_any t W h)
  generalize beginR s.data.toList = R at *
  generalize z0 s.data.toList = z at *
  go_enter Try.func32, Try.ntmps32
  go_wp2
  go_loop [5] (fun i => ∃ k : Nat, k ≤ s.size ∧ i = .int .i64 k ∧ Hid (∀ j, j < k → s.data.toList.getD j 0 ≠ 0)) (fun i => s.size - (intOf i).toNat)
  case atStart => exact ⟨0, Nat.zero_le _, rfl, fun j h1 => absurd h1 (by omega)⟩
  case round =>
    obtain ⟨k, hk2, rfl, HK⟩ := hrel
    have hend : (k = s.size ∨ ∃ h : k < s.size, s[k] = 0) → z = k := by
      rintro (h | ⟨h, h0⟩)
      · subst h; exact HZ2.out HK.out
      · exact HZ1.out k h HK.out (by rw [byte_at s k h]; exact h0)
    have HEND := Lib.hid hend
    clear hend
    by_cases hlt : k < s.size
    · have hki : (k : Int) < s.size := by omega
      have hk0 : (0 : Int) ≤ k := by omega
      have d1 : decide ((k : Int) < s.size) = true := decide_eq_true hki
      have HGB := Lib.hid (byte_at s k hlt)
      by_cases hz : s[k] = 0
      · have d2 : ((s[k].toNat : Int) != 0) = false := by rw [hz]; rfl
        obtain rfl := HEND.out (.inr ⟨hlt, hz⟩)
        clear HEND HZ1 HZ2 HK
        go_wp2_with fail
        refine (HUP.out (z + 1) _ (by omega)).mono ?_
        rintro e w1 ⟨rfl, rfl⟩
        have hug := HUG.out (z + 1)
        clear HUG HUP
        by_cases hn : s.size < up4 (z + 1)
        · have hR := HSH.out (.inr hn)
          have HE := Lib.hid hR
          have d3 : decide ((s.size : Int) < (up4 (z + 1) : Int)) = true := decide_eq_true (by omega)
          have d3' : decide (s.size < up4 (z + 1)) = true := decide_eq_true hn
          have d4 : ((z : Int) == (s.size : Int)) = false := by simp; omega
          generalize up4 (z + 1) = n at *
          clear hR HSH HLO hz
          go_wp2
          go_ret3
          exact ⟨by rw [HE.out]; rfl, rfl⟩
        · have hR := HLO.out (by omega)
          have d3 : decide ((s.size : Int) < (up4 (z + 1) : Int)) = false := decide_eq_false (by omega)
          have d3' : decide (s.size < up4 (z + 1)) = false := decide_eq_false hn
          have d4 : ((z : Int) == (s.size : Int)) = false := by simp; omega
          generalize up4 (z + 1) = n at *
          have HND1 := Lib.hid (HND.out (s.extract 0 z) w (by rw [ByteArray.size_extract]; unfold maxLen; omega))
          have HZE1 := Lib.hid (HZE.out (s.extract z n) w (by rw [ByteArray.size_extract]; unfold maxLen; omega))
          clear HND HZE HSH HLO hz
          have c1 : (z : Int) ≤ s.size := by omega
          have c2 : (z : Int) ≤ n := by omega
          have c3 : (n : Int) ≤ s.size := by omega
          generalize nodeB (s.extract 0 z) = nb at *
          generalize zerosB (s.extract z n).data.toList = zb at *
          cases nb with
          | false =>
            have HE : Hid (R = (ByteArray.empty, 0, 6)) := by unfold Hid; rw [hR]; rfl
            clear hR HZE1
            go_wp2_with fail
            refine HND1.out.mono ?_
            rintro e w1 ⟨rfl, rfl⟩
            go_wp2
            go_ret3
            exact ⟨by rw [HE.out]; rfl, rfl⟩
          | true =>
            cases zb with
            | false =>
              have HE : Hid (R = (ByteArray.empty, 0, 6)) := by unfold Hid; rw [hR]; rfl
              clear hR
              go_wp2_with fail
              refine HND1.out.mono ?_
              rintro e w1 ⟨rfl, rfl⟩
              go_wp2_with fail
              refine HZE1.out.mono ?_
              rintro e w1 ⟨rfl, rfl⟩
              go_wp2
              go_ret3
              exact ⟨by rw [HE.out]; rfl, rfl⟩
            | true =>
              have HE : Hid (R = (s.extract 0 z, n, 0)) := by unfold Hid; rw [hR]; rfl
              clear hR
              go_wp2_with fail
              refine HND1.out.mono ?_
              rintro e w1 ⟨rfl, rfl⟩
              go_wp2_with fail
              refine HZE1.out.mono ?_
              rintro e w1 ⟨rfl, rfl⟩
              go_wp2
              go_ret3
              exact ⟨by rw [HE.out]; rfl, rfl⟩
      · have d2 : ((s[k].toNat : Int) != 0) = true := by
          have : s[k].toNat ≠ 0 := fun e => hz (UInt8.toNat_inj.1 e)
          simp; omega
        have HK1 : Hid (∀ j, j < k + 1 → s.data.toList.getD j 0 ≠ 0) := fun j h2 => by
          by_cases e : j = k
          · subst e; rw [HGB.out]; exact hz
          · exact HK.out j (by omega)
        clear hz HEND
        go_wp2
        go_round
        case rel => exact ⟨k + 1, by omega, by go_num, HK1⟩
        case measure => simp [intOf]; omega
    · obtain rfl : k = s.size := by omega
      obtain rfl := HEND.out (.inl rfl)
      have d1 : decide ((s.size : Int) < s.size) = false := decide_eq_false (by omega)
      have HE := Lib.hid (HSH.out (.inl (Nat.le_refl _)))
      have d4 : ((s.size : Int) == (s.size : Int)) = true := by simp
      clear HEND HZ1 HZ2 HK HSH HLO
      go_wp2_with fail
      refine (HUP.out (s.size + 1) _ (by omega)).mono ?_
      rintro e w1 ⟨rfl, rfl⟩
      go_wp2
      go_ret3
      exact ⟨by rw [HE.out]; rfl, rfl⟩
end Go.Proofs.Ytmgmpjgofolkgaa

/- Slices of tokens in memory, that came in or are the call's own, and append of tokens to one's own. No condition: nothing of the program stands in it but types. -/
namespace Go.Proofs.Ytmgmpjgofolkgaa
open Go.RowKit

/-- A token as cells, and as a value. -/
def tkC (x : TK) : Array Value := #[.int .i64 x.kd, .string x.nm, .string x.vl]
def tkV (x : TK) : Value := .agg #[.int .i64 x.kd, .string x.nm, .string x.vl]
theorem infoTk (x : TK) : (Try.prog.info? 70).map (·.size) = some (tkC x).size := by show _ = some 3; kernel_rfl
theorem tkC_one (x : TK) : (tkC x).all (·.oneCell') = true := by
  rw [Array.all_eq_true_iff_forall_mem]
  intro v hv
  simp [tkC] at hv
  rcases hv with rfl | rfl | rfl <;> rfl
/-- A token lies at a place. -/
def TkAt (w : World) (b o : Nat) (x : TK) : Prop := w.cell? ⟨b, o, none⟩ = some (.int .i64 x.kd) ∧ w.cell? ⟨b, o + 1, none⟩ = some (.string x.nm) ∧ w.cell? ⟨b, o + 2, none⟩ = some (.string x.vl)
/-- The slice at A reads as the tokens l. -/
def RdTk (w : World) (A : Option Addr) (l : List TK) : Prop := l = [] ∨ ∃ b off, A = some ⟨b, off, none⟩ ∧ ∀ k, k < l.length → TkAt w b (off + k * 3) (l.getD k tk0)
theorem RdTk.at_ {w : World} {A : Option Addr} {l : List TK} (h : RdTk w A l) {k : Nat} (hk : k < l.length) : ∃ b off x, A = some ⟨b, off, none⟩ ∧ TkAt w b (off + k * 3) x ∧ Hid (l.getD k tk0 = x) := by
  rcases h with rfl | ⟨b, off, rfl, hc⟩
  · simp at hk
  · exact ⟨b, off, _, rfl, hc k hk, rfl⟩
theorem TkAt.below {w w' : World} {b o : Nat} {x : TK} (h : TkAt w b o x) (hb : Below w.heap.size w w') : TkAt w' b o x := ⟨cellK_below h.1 hb, cellK_below h.2.1 hb, cellK_below h.2.2 hb⟩
theorem RdTk.below {w w' : World} {A : Option Addr} {l : List TK} (h : RdTk w A l) (hb : Below w.heap.size w w') : RdTk w' A l := by
  rcases h with h | ⟨b, off, rfl, hc⟩
  · exact .inl h
  · exact .inr ⟨b, off, rfl, fun k hk => (hc k hk).below hb⟩
/-- Tokens as cells. -/
def tkl (x : TK) : List Value := [.int .i64 x.kd, .string x.nm, .string x.vl]
def tkL (l : List TK) : List Value := l.flatMap tkl
theorem tkL_snoc (l : List TK) (x : TK) : tkL (l ++ [x]) = tkL l ++ tkl x := by simp [tkL]
theorem tkL_length (l : List TK) : (tkL l).length = l.length * 3 := by
  induction l with
  | nil => rfl
  | cons x l ih => show (tkl x ++ tkL l).length = _; rw [List.length_append, ih, List.length_cons]; simp only [tkl, List.length_cons, List.length_nil]; omega
theorem tkL_at (l : List TK) {k : Nat} (hk : k < l.length) : (tkL l)[k * 3]? = some (.int .i64 (l.getD k tk0).kd) ∧ (tkL l)[k * 3 + 1]? = some (.string (l.getD k tk0).nm) ∧ (tkL l)[k * 3 + 2]? = some (.string (l.getD k tk0).vl) := by
  induction l generalizing k with
  | nil => simp at hk
  | cons x l ih =>
    show (tkl x ++ tkL l)[k * 3]? = _ ∧ (tkl x ++ tkL l)[k * 3 + 1]? = _ ∧ (tkl x ++ tkL l)[k * 3 + 2]? = _
    match k, hk with
    | 0, _ => exact ⟨rfl, rfl, rfl⟩
    | k + 1, hk =>
      have := ih (k := k) (by simpa using hk)
      rw [show (k + 1) * 3 = k * 3 + 1 + 1 + 1 by omega]
      simp only [tkl, List.cons_append, List.nil_append, List.getElem?_cons_succ, List.getD_cons_succ]
      exact this
theorem row_rdTk {w : World} {base : Nat} {v : Value} {l : List TK} (h : w.ownsRow base 70 3 v l.length (tkL l)) : ∃ A cap, v = .slice A l.length cap ∧ RdTk w A l := by
  rcases h.2 with ⟨rfl, hz⟩ | ⟨b, cap, cur, rfl, _, hg, _, _, _, hx⟩
  · exact ⟨none, 0, by rw [hz], .inl (List.length_eq_zero_iff.1 hz)⟩
  · refine ⟨_, cap, rfl, .inr ⟨b, 0, rfl, fun k hk => ?_⟩⟩
    obtain ⟨h1, h2, h3⟩ := tkL_at l hk
    have e : ∀ j, j < l.length * 3 → cur[j]? = (tkL l)[j]? := fun j hj => by
      rw [← hx, List.getElem?_take_of_lt hj, Array.getElem?_toList]
    refine ⟨?_, ?_, ?_⟩
    · rw [Nat.zero_add, cell_of_row w b _ cur _ (0, 0) hg, e _ (by omega), h1]
    · rw [Nat.zero_add, cell_of_row w b _ cur _ (0, 0) hg, e _ (by omega), h2]
    · rw [Nat.zero_add, cell_of_row w b _ cur _ (0, 0) hg, e _ (by omega), h3]
/-- 'l = append(l, x)', x a token. -/
theorem append_tk {ops : Array Oper} {rest : List Oper} {o : Oper} {a : Act} {Q : Exit → Act → World → Prop} {w : World} (hgd : o.guard = none) (s y : Operand)
    (ho : o.op = .call { callee := .builtin .append, args := #[s, y], argTypes := #[53, 53] })
    (x : TK) (v : Value) (l : List TK) (hs : a.eval s = v) (hown : w.ownsRow 0 70 3 v l.length (tkL l)) (H : Nat) (hH : w.heap.size = H) (hx : a.eval y = .slice (some ⟨H, 0, none⟩) 1 1)
    (hn : l.length ≤ 1099511627776)
    (h : ∀ v' w', w'.ownsRow 0 70 3 v' (l ++ [x]).length (tkL (l ++ [x])) → Moved w w' (ownS v) (ownS v') → wpList Try.prog ops Q rest (a.put o.dst v') w') : wpList Try.prog ops Q (o :: rest) a (w.alloc (.cells (tkC x) 70)) := by
  subst hH
  have hinf : ((Try.prog.info? 70).map fun i => (i.zero, i.size, i.bytes)) = some (some (tkV tk0), 3, 40) := by kernel_rfl
  obtain ⟨i, hi, he⟩ := Option.map_eq_some_iff.1 hinf
  simp only [Prod.mk.injEq] at he
  refine wpList_append_own_at _ hgd s y 53 ho 0 70 i (tkV tk0) 3 40 Try.underlying53 hi he.1 he.2.1 he.2.2 rfl (by decide) v l.length (tkL l) hs (hown.alloc _) ⟨w.heap.size, 0, none⟩ 1 1 (tkl x) hx rfl ?_ ?_ (by unfold maxLen; omega) (by omega) (Nat.zero_le _) ?_
  · intro j u hj
    have hA := Arr.new w 70 (tkC x)
    have hlt := (List.getElem?_eq_some_iff.1 hj).1
    have e : (⟨w.heap.size, 0, none⟩ : Addr).add j = ⟨w.heap.size, j, none⟩ := by unfold Addr.add; split <;> simp_all
    rw [e, hA.cell, ← hj]
    show (tkl x).toArray[j]? = _
    rw [List.getElem?_toArray]
  · intro u hu; simp [tkl] at hu; rcases hu with rfl | rfl | rfl <;> rfl
  · intro v' w' ho' hg _ hl
    refine h v' w' (by rw [tkL_snoc, List.length_append]; exact ho') (Moved.of_grown ((World.grownBy_alloc w _ _).trans hg) ?_)
    rcases hl with hl | hl
    · exact .inl hl
    · rw [sz_alloc] at hl; exact .inr ⟨_, hl, Nat.le_succ _⟩
end Go.Proofs.Ytmgmpjgofolkgaa
