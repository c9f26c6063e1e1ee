/- What the document's own Sum returns: condition: at most 2^20 bytes. -/
import Derived.Test.YtppfdhledmbkhaaShaC
import Derived.Test.YtppfdhledmbkhaaShaK
import Derived.Test.YtppfdhledmbkhaaBytes
namespace Go.Proofs.Ytppfdhledmbkhaa
open Go.RowKit

/-- How many elements a slice has. -/
def slen : Value → Nat
  | .slice _ n _ => n
  | _ => 0
theorem lenB_toNat (n i : Nat) : (lenB n i).toNat = 8 * n / 2 ^ (56 - 8 * i) % 256 := by unfold lenB; rw [UInt8.toNat_ofNat']
/-- What stands ahead of the length. -/
def pad (L : List UInt8) (j : Nat) : List UInt8 := L ++ [128] ++ List.replicate j 0
theorem pad_length (L : List UInt8) (j : Nat) : (pad L j).length = L.length + 1 + j := by unfold pad; simp; omega
theorem pad_succ (L : List UInt8) (j : Nat) : pad L j ++ [0] = pad L (j + 1) := by unfold pad; rw [List.replicate_succ', List.append_assoc, List.append_assoc]
theorem pad_zero (L : List UInt8) : L ++ [128] = pad L 0 := by unfold pad; simp
theorem pad_full (L : List UInt8) : pad L (zrs L.length) ++ lenBs L.length 8 = L ++ ending L.length := by unfold pad ending; simp only [List.append_assoc]

/-- Two arrays that were laid. -/
theorem two_world {B : Nat} {w w1 : World} (hb : Below B w w1) (hB : B ≤ w1.heap.size) (td te : TypeId) (cd ce z1 z2 : Array Value) : ∀ w2, w2 = (((w1.alloc (.cells z1 td)).setRow w1.heap.size cd).alloc (.cells z2 te)).setRow (w1.heap.size + 1) ce →
    Arr w2 w1.heap.size td cd ∧ Arr w2 (w1.heap.size + 1) te ce ∧ Below B w w2 := by
  rintro _ rfl
  refine ⟨(((Arr.new _ _ _).row _).alloc _).rowFar (by omega) _, (Arr.new1r _ _ _ _ _ _).row _, ?_⟩
  exact below_setRow ((below_setRow (hb.alloc (by omega) _) (by omega) _).alloc (by rw [size_setRow]; simp; omega) _) (by omega) _
theorem extract_list (t : ByteArray) (a b : Nat) : (t.extract a b).data.toList = (t.data.toList.drop a).take (b - a) := by
  rw [ByteArray.data_extract, Array.toList_extract, List.extract_eq_take_drop]
theorem blks_succ (M : List UInt8) (n : Nat) : blks M (n + 1) = mixP (blks M n) ((M.drop (64 * n)).take 64) := rfl
theorem blks_zero (M : List UInt8) : blks M 0 = s0 := rfl

theorem b4_cast (x : Nat) : (x : Int) / 16777216 % 256 = ((UInt8.ofNat (x / 16777216)).toNat : Int) ∧ (x : Int) / 65536 % 256 = ((UInt8.ofNat (x / 65536)).toNat : Int) ∧ (x : Int) / 256 % 256 = ((UInt8.ofNat (x / 256)).toNat : Int) ∧ (x : Int) % 256 = ((UInt8.ofNat x).toNat : Int) := by
  refine ⟨?_, ?_, ?_, ?_⟩ <;> (rw [UInt8.toNat_ofNat']; omega)
theorem txt_take (l : List Nat) (k : Nat) (h : k < l.length) : txt (l.take (k + 1)) = txt (l.take k) ++ [UInt8.ofNat (l.getD k 0 / 16777216)] ++ [UInt8.ofNat (l.getD k 0 / 65536)] ++ [UInt8.ofNat (l.getD k 0 / 256)] ++ [UInt8.ofNat (l.getD k 0)] := by
  unfold txt
  rw [List.take_succ_eq_append_getElem h, List.flatMap_append, List.getD_eq_getElem?_getD, List.getElem?_eq_getElem h]
  simp [b4]
theorem own_cast {w : World} {base : Nat} {e : TypeId} {v : Value} {n n' : Nat} {l l' : List UInt8} (h : w.ownsRow base e 1 v n (Lib.byteCells l)) (hn : n = n') (hl : l = l') : w.ownsRow base e 1 v n' (Lib.byteCells l') := by subst hn; subst hl; exact h
theorem byteCells_more (l : List UInt8) (c : UInt8) : Lib.byteCells l ++ [.int .u8 (c.toNat : Int)] = Lib.byteCells (l ++ [c]) := by simp [Lib.byteCells]
/-- string(b) of a row of the call's own that holds the bytes l. -/
theorem conv_own {w : World} {base : Nat} {v : Value} {n : Nat} {l : List UInt8} (h : w.ownsRow base 5 1 v n (Lib.byteCells l)) :
    (convert 37 9 v).run Try.prog w = .ok (.string ⟨l.toArray⟩) w := by
  obtain ⟨hlen, hv⟩ := h
  have hn : n = l.length := by rw [Lib.byteCells_length] at hlen; omega
  subst hn
  rcases hv with ⟨rfl, h0⟩ | ⟨g, cap, cur, rfl, hg, hc, _, _, _, ht⟩
  · obtain rfl := List.length_eq_zero_iff.1 h0
    exact Lib.run_convert_nil_bytes w _ _ 5 0 Try.underlying37 Try.underlying5 Try.underlying9
  · exact run_convert_bytes_back w _ _ 5 ⟨g, 0, none⟩ cap l Try.underlying37 Try.underlying5 Try.underlying9 (Lib.bytes_of_row hc (by simpa using ht))

set_option maxHeartbeats 3200000 in
set_option maxRecDepth 100000 in
theorem refsum_any (s : ByteArray) (w : World) (hs : s.size ≤ 1048576) :
    Calls Try.prog 6 #[.string s] w fun e w' => e = .returned (.string ⟨(hash s.data.toList).toArray⟩) ∧ Below w.heap.size w w' := by
  have hcv := run_bytes_of_string (P := Try.prog) w 9 37 5 s Try.underlying9 Try.underlying37 Try.underlying5
  have hge := grownCap_ge w s.size 0 5
  generalize grownCap w s.size 0 5 = cap at hcv hge
  have hrow := brow_conv w.drew s cap 5 hge
  have hbel := ((Below.refl w.heap.size w).drew).alloc (Nat.le_refl _) (.cells (bytesRow s cap) 5 ((bytesRow s cap).size, (bytesRow s cap).size + 1))
  have hHB : w.drew.heap.size = w.heap.size := rfl
  rw [hHB] at hrow
  clear hHB
  have HR := Lib.hid hrow
  have HB0 := Lib.hid hbel
  generalize (.cells (bytesRow s cap) 5 ((bytesRow s cap).size, (bytesRow s cap).size + 1) : Obj) = O at *
  clear hrow hbel hge
  have HSL : Hid (s.data.toList.length = s.size) := rfl
  go_enter Try.func6, Try.ntmps6
  go_wp2_with (at_builtin; refine brow_append rfl (.tmp 14) (.tmp 15) rfl w.heap.size _ s.data.toList 128 rfl HR.out (w.heap.size + 1) (by simp) rfl (by rw [HSL.out]; omega) HB0.out.size ?_)
  intro v1 w1 hr1 hb1
  have b1 := HB0.out.trans (hb1.mono (Nat.le_refl _))
  clear hb1 hcv HR HB0
  rw [pad_zero] at hr1
  have H1 := Lib.hid hr1
  clear hr1
  go_wp2
  go_loopw [3] (fun b wr => ∃ j : Nat, j ≤ zrs s.size ∧ BRow w.heap.size wr b (pad s.data.toList j) ∧ Below w.heap.size w wr) (fun b _ => (120 - slen b % 64) % 64)
  case atStart => exact ⟨0, Nat.zero_le _, H1.out, b1⟩
  case round =>
    clear H1 b1
    obtain ⟨j, hj, hr, hb⟩ := hrel
    have HQ := Lib.hid (pad_length s.data.toList j)
    have HR := Lib.hid hr
    obtain ⟨g, cp, rfl, -⟩ := hr
    obtain ⟨q, hq⟩ : ∃ q, (pad s.data.toList j).length = q := ⟨_, rfl⟩
    have hq1 : q = s.size + 1 + j := by rw [← hq]; exact HQ.out
    rw [hq] at HR
    rw [hq]
    have HQ2 := Lib.hid hq
    have HQ1 := Lib.hid hq1
    have hqs : q ≤ 1048640 := by unfold zrs at hj; omega
    have q0 : (0 : Int) ≤ q := by omega
    by_cases h56 : q % 64 = 56
    · have hjz : j = zrs s.size := by unfold zrs at hj ⊢; omega
      have e1 : (q : Int) % 64 = 56 := by omega
      subst hjz
      clear hq hq1 h56 hj
      go_wp2
      rw [e1]
      obtain ⟨m8, hm8⟩ : ∃ m : Nat, (s.size : Int) * 8 = (m : Int) := ⟨s.size * 8, by omega⟩
      have hm8' : 8 * s.size = m8 := by omega
      rw [hm8]
      have HM8 := Lib.hid hm8'
      have HR0 : Hid (BRow w.heap.size wr (.slice (some ⟨g, 0, none⟩) q cp) (pad s.data.toList (zrs s.size) ++ lenBs s.size 0)) := by rw [show lenBs s.size 0 = [] from rfl, List.append_nil]; exact HR.out
      have lz : zrs s.size < 64 := by unfold zrs; omega
      clear e1 hm8 hm8' HR HQ HQ2 HQ1
      go_loopw [3, 5] (fun b i wr => ∃ k : Nat, k ≤ 8 ∧ i = .int .i64 k ∧ BRow w.heap.size wr b (pad s.data.toList (zrs s.size) ++ lenBs s.size k) ∧ Below w.heap.size w wr) (fun _ i _ => 8 - (intOf i).toNat)
      case atStart => exact ⟨0, Nat.zero_le _, rfl, HR0.out, hb⟩
      case round =>
        clear HR0 hb hqs q0
        obtain ⟨k, hk, rfl, hr, hb⟩ := hrel
        have HR := Lib.hid hr
        have HQ : Hid ((pad s.data.toList (zrs s.size) ++ lenBs s.size k).length = s.size + 1 + zrs s.size + k) := by unfold Hid; rw [List.length_append, pad_length, lenBs_length]; rfl
        clear hr
        have hz := hb.size
        by_cases hl : k < 8
        · obtain ⟨ex, hex⟩ : ∃ ex, 56 - 8 * k = ex := ⟨_, rfl⟩
          obtain ⟨p, hp⟩ : ∃ p, 8 * k = p := ⟨_, rfl⟩
          have hv : (m8 : Int) / 2 ^ ex % 256 = ((lenB s.size k).toNat : Int) := by
            rw [lenB_toNat, HM8.out, hex, Int.natCast_emod, cast_div]; rfl
          have HN : Hid (lenBs s.size (k + 1) = lenBs s.size k ++ [lenB s.size k]) := rfl
          generalize lenB s.size k = c at *
          have i1 : 8 * (k : Int) = (p : Int) := by omega
          have i2 : 56 - (p : Int) = (ex : Int) := by omega
          have i3 : (0 : Int) ≤ ex := by omega
          clear hex hp
          go_wp2_with (at_builtin; go_must (refine brow_append rfl (.tmp 32) (.tmp 39) rfl w.heap.size _ (pad s.data.toList (zrs s.size) ++ lenBs s.size k) c rfl HR.out wr.heap.size rfl rfl (by rw [HQ.out]; omega) hz ?_))
          intro v2 w2 hr2 hb2
          rw [← HN.out] at hr2
          have hb3 := hb.trans hb2
          clear hv i1 i2
          go_wp2
          go_roundw
          case rel => exact ⟨k + 1, by omega, by go_num, hr2, hb3⟩
          case measure => simp [intOf]; omega
        · obtain rfl : k = 8 := by omega
          rw [show ((8 : Nat) : Int) = 8 from rfl]
          have HPF : Hid (pad s.data.toList (zrs s.size) ++ lenBs s.size 8 = s.data.toList ++ ending s.size) := pad_full s.data.toList
          rw [HPF.out] at HR
          have hst := brow_string HR.out
          clear HR HQ HPF HM8
          go_wp2_with fail
          refine (refconstants_any wr).mono ?_
          rintro e w2 ⟨rfl, hb2⟩
          have b2 := hb.trans (hb2.mono hz)
          clear hb hb2 hz hst
          have hz := b2.size
          have HH : Hid (hash s.data.toList = txt (blks (s.data.toList ++ ending s.size) ((s.data.toList ++ ending s.size).length / 64)).list) := rfl
          have HF := Lib.hid (ending_full s.size)
          generalize ht : (⟨(s.data.toList ++ ending s.size).toArray⟩ : ByteArray) = t
          have ht1 : t.data.toList = s.data.toList ++ ending s.size := by rw [← ht]
          have ht2 : t.size = s.size + (ending s.size).length := by rw [← ht]; show (s.data.toList ++ ending s.size).toArray.size = _; rw [List.size_toArray, List.length_append]; rfl
          have ht3 : t.size % 64 = 0 := by rw [ht2]; exact HF.out
          have ht4 : t.size ≤ 1048700 := by rw [ht2, ending_length]; omega
          obtain ⟨K, hK⟩ : ∃ K, t.size = 64 * K := ⟨t.size / 64, by omega⟩
          have HTK := Lib.hid hK
          have HHT : Hid (hash s.data.toList = txt (blks t.data.toList K).list) := by
            unfold Hid
            rw [HH.out, ← ht1, show t.data.toList.length = t.size from rfl, hK, Nat.mul_div_cancel_left _ (by omega)]
          clear ht ht1 ht2 ht3 hK HH HF
          have HI8 := Lib.hid info8s
          go_wp2_with (first | (refine wpList_store_row rfl 39 (.tmp 7) (.tmp 43) rfl w2.heap.size (nums .u32 kks) rfl rfl _ _ (Arr.new _ _ _) info64k rfl (nums_one _ _) ?_) | (refine wpList_store_row rfl 30 (.tmp 8) (.tmp 44) rfl (w2.heap.size + 1) (nums .u32 s0.list) rfl rfl _ _ (Arr.new1r _ _ _ _ _ _) HI8.out rfl (nums_one _ _) ?_))
          have wf := two_world b2 hz 39 30 (nums .u32 kks) (nums .u32 s0.list) (nums .u32 (List.replicate 64 0)) (nums .u32 (List.replicate 8 0))
          generalize hg : ((((w2.alloc _).setRow _ _).alloc _).setRow _ _) = w3
          obtain ⟨A7, A8, b3⟩ := wf w3 hg.symm
          clear wf hg b2 HI8
          have g78 : w2.heap.size < w2.heap.size + 1 := by omega
          have g77 : w.heap.size ≤ w2.heap.size := hz
          clear hz
          generalize w2.heap.size + 1 = g8 at *
          generalize w2.heap.size = g7 at *
          have H7 := Lib.hid A7
          have H8 := Lib.hid A8
          clear A7 A8 hk hl lz hs
          go_loopw [9] (fun i wr => ∃ k : Nat, k ≤ K ∧ i = .int .i64 ((64 * k : Nat) : Int) ∧ Arr wr g8 30 (nums .u32 (blks t.data.toList k).list) ∧ Arr wr g7 39 (nums .u32 kks) ∧ Below w.heap.size w wr) (fun i _ => t.size - (intOf i).toNat)
          case atStart => exact ⟨0, Nat.zero_le _, rfl, by rw [blks_zero]; exact H8.out, H7.out, b3⟩
          case round =>
            clear H7 H8 b3
            obtain ⟨k, hk, rfl, A8, A7, hb⟩ := hrel
            have H7 := Lib.hid A7
            have H8 := Lib.hid A8
            have hz := hb.size
            clear A7 A8
            obtain ⟨p, hp⟩ : ∃ p, 64 * k = p := ⟨_, rfl⟩
            rw [hp]
            have hpb : p ≤ 1048700 := by have := HTK.out; omega
            by_cases hl : k < K
            · obtain ⟨r, hr⟩ : ∃ r, p + 64 = r := ⟨_, rfl⟩
              have hq : r ≤ t.size := by rw [HTK.out]; omega
              have hok := blks_ok t.data.toList k
              have HN := Lib.hid (blks_succ t.data.toList k)
              rw [hp] at HN
              have HX : Hid ((t.extract p r).data.toList = (t.data.toList.drop p).take 64) := by unfold Hid; rw [extract_list, ← hr, Nat.add_sub_cancel_left]
              have HZ : Hid ((t.extract p r).size = 64) := by unfold Hid; rw [ByteArray.size_extract]; omega
              rw [← HX.out] at HN
              generalize hS : blks t.data.toList k = S at *
              have HK := Lib.hid (fun w => block_any S (t.extract p r) w HZ.out hok)
              have HI8 := Lib.hid (info8 S.list (S8.list_length _))
              have HI8' := Lib.hid (info8 (mixP S (t.extract p r).data.toList).list (S8.list_length _))
              have HSZ : Hid ((nums .u32 S.list).size = (nums .u32 (mixP S (t.extract p r).data.toList).list).size) := by unfold Hid; rw [nums_size, nums_size, S8.list_length, S8.list_length]
              clear HX HZ hS hok
              generalize mixP S (t.extract p r).data.toList = S2 at *
              have hpr : (p : Int) + 64 = (r : Int) := by omega
              have hp1 : (r : Int) ≤ t.size := by omega
              have hp0 : (0 : Int) ≤ p := by omega
              have hr0 : (0 : Int) ≤ r := by omega
              have hpq : (p : Int) ≤ r := by omega
              have P1 := Lib.hid hp
              have P2 := Lib.hid hr
              have wr1 : IntKind.i64.wrap (r : Int) = (r : Int) := IntWalk.i64_in _ ⟨by omega, by omega⟩
              clear hp hr
              go_wp2
              refine wp_region_still_tail 7 (by kernel_rfl) (by kernel_rfl) ?_
              simp only [List.take_succ_cons, List.take_zero, List.drop_succ_cons, List.drop_zero]
              refine still_load rfl 30 (.tmp 8) rfl _ (run_loadAt_row (w := wr.drew) H8.out Try.underlying30 rfl HI8.out) ?_
              still_step
              still_step
              still_step
              still_step
              still_step
              refine still_load rfl 39 (.tmp 7) rfl _ (run_loadAt_row (w := wr.drew) H7.out Try.underlying39 rfl info64k) ?_
              refine wpStill_nil ?_
              have hb1 := hb.drew
              have H71 : Hid (Arr wr.drew g7 39 (nums .u32 kks)) := H7.out
              have H81 : Hid (Arr wr.drew g8 30 (nums .u32 S.list)) := H8.out
              change wpList _ _ _ _ _ wr.drew
              generalize wr.drew = wd at *
              clear H7 H8 hb wr1
              go_wp2_with fail
              refine (HK.out wd).mono ?_
              rintro e w5 ⟨rfl, hb5⟩
              have H72 := Lib.hid (H71.out.below hb5 H71.out.lt)
              have H82 := Lib.hid (H81.out.below hb5 H81.out.lt)
              have hb6 := hb1.trans (hb5.mono hb1.size)
              clear H71 H81 hb1 hb5
              go_wp2_with (refine wpList_store_row rfl 30 (.tmp 8) (.tmp 59) rfl g8 _ rfl rfl _ _ H82.out HI8'.out HSZ.out (nums_one _ _) ?_)
              go_roundw
              case rel => exact ⟨k + 1, by omega, by rw [Nat.mul_add, P1.out, P2.out], by rw [HN.out]; exact H82.out.row _, H72.out.rowFar (by omega) _, below_setRow hb6 (by omega) _⟩
              case measure => simp [intOf]; omega
            · obtain rfl : k = K := by omega
              clear hl hk
              have htp : ¬ ((p : Int) + 64 ≤ t.size) := by have := HTK.out; omega
              generalize hH : (blks t.data.toList k).list = H at *
              have HHL : Hid (H.length = 8) := by rw [← hH]; exact S8.list_length _
              clear hH hp
              go_wp2
              obtain ⟨wl, rfl⟩ : ∃ wl, wl = wr := ⟨_, rfl⟩
              have hg8 := H8.out.lt
              have hbz := hb
              clear H7 htp hb HTK hz
              generalize hBz : wl.heap.size = Bz at *
              have HBz := Lib.hid hBz
              clear hBz
              have O0 : wl.ownsRow Bz 5 1 (.slice none 0 0) (4 * 0) (Lib.byteCells (txt (H.take 0))) := ⟨rfl, .inl ⟨rfl, rfl⟩⟩
              have HO0 := Lib.hid O0
              clear O0
              go_loopw [10, 11] (fun o i wq => ∃ k : Nat, k ≤ 8 ∧ i = .int .i64 k ∧ wq.ownsRow Bz 5 1 o (4 * k) (Lib.byteCells (txt (H.take k))) ∧ Below Bz wl wq) (fun _ i _ => 8 - (intOf i).toNat)
              case atStart => exact ⟨0, Nat.zero_le _, rfl, HO0.out, by rw [← HBz.out]; exact Below.refl _ _⟩
              case round =>
                clear HO0
                obtain ⟨c, hc, rfl, hO, hbq⟩ := hrel
                have HO := Lib.hid hO
                clear hO
                by_cases hl : c < 8
                · have HT := Lib.hid (txt_take H c (by rw [HHL.out]; exact hl))
                  have HA := Lib.hid (H8.out.below hbq hg8)
                  have hx := HA.out.num (j := c) (by rw [HHL.out]; exact hl) rfl
                  generalize hxx : H.getD c 0 = x at *
                  obtain ⟨v1, v2, v3, v4⟩ := b4_cast x
                  generalize UInt8.ofNat (x / 16777216) = y1 at *
                  generalize UInt8.ofNat (x / 65536) = y2 at *
                  generalize UInt8.ofNat (x / 256) = y3 at *
                  generalize UInt8.ofNat x = y4 at *
                  have hc0 : (0 : Int) ≤ c := by omega
                  have hc8 : (c : Int) < 8 := by omega
                  have hz : Bz ≤ wr.heap.size := by have := hbq.size; have := HBz.out; omega
                  go_wp2_with (at_builtin; go_must (refine append_one rfl _ _ 37 rfl Bz 5 (.int .u8 0) 1 elem_byte (.int .u8 (y1.toNat : Int)) rfl u10 (4 * c) _ rfl HO.out rfl (by omega) (by unfold maxLen; omega) hz ?_))
                  intro o1 q1 ho1 hb1
                  rw [byteCells_more] at ho1
                  have HO1 := Lib.hid ho1
                  have HA1 := Lib.hid (HA.out.below hb1 hg8)
                  have hx1 := HA1.out.num (j := c) (by rw [HHL.out]; exact hl) hxx
                  have bb1 := hbq.trans hb1
                  have hz1 : Bz ≤ q1.heap.size := by have := hb1.size; omega
                  clear ho1 hb1 hbq HO HA hx hz v1
                  go_wp2_with (at_builtin; go_must (refine append_one rfl _ _ 37 rfl Bz 5 (.int .u8 0) 1 elem_byte (.int .u8 (y2.toNat : Int)) rfl o1 (4 * c + 1) _ rfl HO1.out rfl (by omega) (by unfold maxLen; omega) hz1 ?_))
                  intro o2 q2 ho2 hb2
                  rw [byteCells_more] at ho2
                  have HO2 := Lib.hid ho2
                  have HA2 := Lib.hid (HA1.out.below hb2 hg8)
                  have hx2 := HA2.out.num (j := c) (by rw [HHL.out]; exact hl) hxx
                  have bb2 := bb1.trans hb2
                  have hz2 : Bz ≤ q2.heap.size := by have := hb2.size; omega
                  clear ho2 hb2 bb1 HO1 HA1 hx1 hz1 v2
                  go_wp2_with (at_builtin; go_must (refine append_one rfl _ _ 37 rfl Bz 5 (.int .u8 0) 1 elem_byte (.int .u8 (y3.toNat : Int)) rfl o2 (4 * c + 1 + 1) _ rfl HO2.out rfl (by omega) (by unfold maxLen; omega) hz2 ?_))
                  intro o3 q3 ho3 hb3
                  rw [byteCells_more] at ho3
                  have HO3 := Lib.hid ho3
                  have HA3 := Lib.hid (HA2.out.below hb3 hg8)
                  have hx3 := HA3.out.num (j := c) (by rw [HHL.out]; exact hl) hxx
                  have bb3 := bb2.trans hb3
                  have hz3 : Bz ≤ q3.heap.size := by have := hb3.size; omega
                  clear ho3 hb3 bb2 HO2 HA2 hx2 hz2 v3
                  go_wp2_with (at_builtin; go_must (refine append_one rfl _ _ 37 rfl Bz 5 (.int .u8 0) 1 elem_byte (.int .u8 (y4.toNat : Int)) rfl o3 (4 * c + 1 + 1 + 1) _ rfl HO3.out rfl (by omega) (by unfold maxLen; omega) hz3 ?_))
                  intro o4 q4 ho4 hb4
                  rw [byteCells_more] at ho4
                  have bb4 := bb3.trans hb4
                  clear hb4 bb3 HO3 HA3 hx3 hz3 v4
                  go_wp2
                  go_roundw
                  case rel => exact ⟨c + 1, by omega, by go_num, own_cast ho4 (by omega) (by rw [HT.out]; simp), bb4⟩
                  case measure => simp [intOf]; omega
                · obtain rfl : c = 8 := by omega
                  have HTT : Hid (H.take 8 = H) := List.take_of_length_le (by rw [HHL.out]; omega)
                  rw [HTT.out, ← HHT.out] at HO
                  have hcv := conv_own HO.out
                  have hfin : Below w.heap.size w wr := hbz.trans (hbq.mono (by have := hbz.size; have := HBz.out; omega))
                  go_wp2
                  go_ret
                  exact ⟨rfl, hfin⟩
    · have e1 : ((q : Int) % 64 == 56) = false := by simp; omega
      have e2 : ((q : Int) % 64 != 56) = true := by simp; omega
      have hz := hb.size
      have HP := Lib.hid (pad_succ s.data.toList j)
      have HJ : Hid (j + 1 ≤ zrs s.size) := by unfold Hid zrs at *; omega
      have HM : Hid ((120 - (q + 1) % 64) % 64 < (120 - q % 64) % 64) := by unfold Hid; omega
      clear hq hq1 h56 hj
      go_wp2_with (at_builtin; go_must (refine brow_append rfl (.tmp 21) (.tmp 22) rfl w.heap.size _ (pad s.data.toList j) 0 rfl HR.out wr.heap.size rfl rfl (by rw [HQ2.out]; omega) hz ?_))
      intro v1 w2 hr2 hb2
      rw [HP.out] at hr2
      have hb3 := hb.trans hb2
      go_wp2
      go_roundw
      case rel => exact ⟨j + 1, HJ.out, hr2, hb3⟩
      case measure =>
        obtain ⟨g', cp', rfl, -⟩ := hr2
        show (120 - (pad s.data.toList (j + 1)).length % 64) % 64 < (120 - q % 64) % 64
        rw [← HP.out, List.length_append, HQ2.out]
        exact HM.out
end Go.Proofs.Ytppfdhledmbkhaa
