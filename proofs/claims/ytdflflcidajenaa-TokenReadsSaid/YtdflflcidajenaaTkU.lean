/- What Plain of package token returns. Conditions: at most 2000 tokens. -/
import Derived.Test.YtdflflcidajenaaTkI
namespace Go.Proofs.Ytdflflcidajenaa
open Go.RowKit

set_option maxHeartbeats 3200000 in
set_option maxRecDepth 100000 in
theorem plain_any (A : Option Addr) (cap : Nat) (l : List TK) (w : World) (hr : RdTk w A l) (hl : l.length ≤ 2000) :
    Calls Try.prog 11 #[.slice A l.length cap] w fun e w' => ∃ v, e = .returned v ∧ Ret10 w' v (plainR l) ∧ Below w.heap.size w w' := by
  have HR := Lib.hid hr
  clear hr
  go_enter Try.func11, Try.ntmps11
  go_wp2
  go_loopw [3, 8] (fun v i wr => ∃ k : Nat, k ≤ l.length ∧ i = .int .i64 k ∧ wr.ownsRow 0 34 3 v (plainR (l.take k)).length (tkL (plainR (l.take k))) ∧ (∀ j, v.ownBlock = some j → w.heap.size ≤ j) ∧ Below w.heap.size w wr) (fun _ i _ => l.length - (intOf i).toNat)
  case atStart => exact ⟨0, Nat.zero_le _, rfl, World.ownsRow_nil _ _ _ _, (fun _ hj => nomatch hj), Below.refl _ _⟩
  case round =>
    obtain ⟨k, hk, rfl, hown, hbl, hb⟩ := hrel
    have HB := Lib.hid hb
    have HOWN := Lib.hid hown
    have HBL := Lib.hid hbl
    have hsz := hb.size
    clear hb hown hbl
    by_cases hlt : k < l.length
    · have hki : (k : Int) < l.length := by omega
      obtain ⟨b, off, x, rfl, ⟨h1, h2, h3⟩, HX⟩ := (HR.out.below HB.out).at_ hlt
      have HS := Lib.hid (plain_snoc l hlt HX.out)
      have hpl : (plainR (l.take k)).length ≤ 2000 := by have := plain_len (l.take k); rw [List.length_take] at this; omega
      obtain ⟨kd, nm, vl⟩ := x
      simp only at h1 h2 h3 HS
      clear HX
      have HA0 : Hid (Arr (wr.alloc (.cells (tkC tk0) 34)) wr.heap.size 34 (tkC tk0)) := Arr.new wr _ _
      have HA1 : Hid (Arr ((wr.alloc (.cells (tkC tk0) 34)).setRow wr.heap.size (tkC ⟨kd, nm, vl⟩)) wr.heap.size 34 (tkC ⟨kd, nm, vl⟩)) := HA0.out.row _
      have hbw : Below wr.heap.size wr ((wr.alloc (.cells (tkC tk0) 34)).setRow wr.heap.size (tkC ⟨kd, nm, vl⟩)) := below_setRow ((Below.refl _ _).alloc (Nat.le_refl _) _) (Nat.le_refl _) _
      have HB1 := Lib.hid (HB.out.trans (hbw.mono hsz))
      have HOWN1 := Lib.hid (ow_below HOWN.out hbw)
      clear hbw
      by_cases h4 : kd = 4
      · subst h4
        rw [if_pos rfl] at HS
        rw [← HS.out] at HOWN1
        clear HS
        go_upto_region 5 with (first
          | (refine wpList_store_row rfl 34 (.tmp 5) (.tmp 11) rfl wr.heap.size (tkC ⟨4, nm, vl⟩) rfl rfl _ _ HA0.out (infoTk _) rfl (tkC_one _) ?_))
        change Code.wp _ _ _ _ ((wr.alloc (.cells (tkC tk0) 34)).setRow wr.heap.size (tkC ⟨4, nm, vl⟩))
        generalize (wr.alloc (.cells (tkC tk0) 34)).setRow wr.heap.size (tkC ⟨4, nm, vl⟩) = W at *
        have k0 : W.cell? ⟨wr.heap.size, 0, none⟩ = some (.int .i64 4) := HA1.out.cell 0
        clear HOWN HB HA0
        go_wp2
        go_roundw
        case rel => exact ⟨k + 1, by omega, by go_num, HOWN1.out, HBL.out, HB1.out⟩
        case measure => simp [intOf]; omega
      · rw [if_neg h4] at HS
        have d4 : (kd != 4) = true := by simpa using h4
        clear h4
        generalize plainR (l.take k) = P at *
        go_upto_region 5 with (first
          | (refine wpList_store_row rfl 34 (.tmp 5) (.tmp 11) rfl wr.heap.size (tkC ⟨kd, nm, vl⟩) rfl rfl _ _ HA0.out (infoTk _) rfl (tkC_one _) ?_))
        change Code.wp _ _ _ _ ((wr.alloc (.cells (tkC tk0) 34)).setRow wr.heap.size (tkC ⟨kd, nm, vl⟩))
        generalize (wr.alloc (.cells (tkC tk0) 34)).setRow wr.heap.size (tkC ⟨kd, nm, vl⟩) = W at *
        have k0 : W.cell? ⟨wr.heap.size, 0, none⟩ = some (.int .i64 kd) := HA1.out.cell 0
        have hzW := HB1.out.size
        clear HOWN HB HA0
        go_wp2_with (first
          | (refine wpList_load_row rfl 34 (.tmp 5) rfl wr.heap.size rfl _ #[.int .i64 kd, .string nm, .string vl] _ _ HA1.out Try.underlying34 rfl (infoTk ⟨kd, nm, vl⟩) ?_)
          | (at_builtin; refine append_tk rfl (.tmp 15) (.tmp 17) rfl ⟨kd, nm, vl⟩ _ P rfl HOWN1.out W.heap.size rfl rfl (by omega) ?_; intro v2 w2 ho2 hm2; have HO2 := Lib.hid ho2; have HM2 := Lib.hid hm2; clear ho2 hm2))
        have HB2 := Lib.hid (HB1.out.trans (HM2.out.below HBL.out hzW))
        go_roundw
        case rel => exact ⟨k + 1, by omega, by go_num, by rw [HS.out]; exact HO2.out, (fun j hj => by
          rcases HM2.out.foot j hj with h5 | h5
          · exact HBL.out j h5
          · exact Nat.le_trans hzW h5), HB2.out⟩
        case measure => simp [intOf]; omega
    · obtain rfl : k = l.length := by omega
      rw [List.take_length] at HOWN
      go_wp2
      go_ret
      exact ⟨_, rfl, (show Got10 0 wr _ (plainR l) from HOWN.out).ret, HB.out⟩
end Go.Proofs.Ytdflflcidajenaa
