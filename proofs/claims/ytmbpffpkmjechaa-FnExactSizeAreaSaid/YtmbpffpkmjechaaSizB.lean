
/-
  The program's least width of a drawing. (Walks.)
-/
import Derived.Test.YtmbpffpkmjechaaSizA
namespace Go.Proofs.Ytmbpffpkmjechaa
open Go.RowKit

theorem range_at {r k : Nat} (hk : k < r) : (List.range r).getD k 0 = k := by simp [hk]
set_option maxRecDepth 100000 in
set_option maxHeartbeats 8000000 in
theorem least_any (h wd r : Nat) (gg : Nat → Nat → Nat) (F : Nat → Nat → Nat → Bool) (way : Nat) (hw : way < 2) (d : Nat → Nat) (gn cn : Nat) (w : World) (hr : r ≤ 9) (hr1 : 1 ≤ r) (G : Goes (F way) (firstQ F) r) (hd : ∀ a, a < r → d a ≤ 9)
    (hN : CellsAt w (some ⟨gn, 0, none⟩) (ndL d (List.range r))) :
    Calls Try.prog 29 #[.agg (dwC (ordC (planC h wd r gg) F) (way : Int) (.slice (some ⟨gn, 0, none⟩) r cn))] w
      fun e w' => e = .returned (.int .i64 ((endS (F way) d r : Nat) : Int)) ∧ Below w.heap.size w w' := by
  have hC := planC_size h wd r gg
  have hO := ordC_size hC F
  have HAH := Lib.hid (fun (w : World) hN => aheadF_any h wd r gg F way hw d gn cn w hr hr1 G hd hN)
  have hB := HeldB.new w 49 (dwC (ordC (planC h wd r gg) F) (way : Int) (.slice (some ⟨gn, 0, none⟩) r cn))
  have HKN := Lib.hid (dwC_needs hO (way : Int) (.slice (some ⟨gn, 0, none⟩) r cn))
  have HSZ := Lib.hid (dw_info hO (way : Int) (.slice (some ⟨gn, 0, none⟩) r cn))
  have hf : ∀ b, b < r → sumS (F way) d r b + d b ≤ 81 := fun b hb => by have := G.sum_few hd hb hr; have := hd b hb; omega
  have HEF := Lib.hid (fun k (hk : k ≤ r) => show eM (fun a => sumS (F way) d r a + d a) k ≤ 81 from (eM_le k).2 fun a ha => hf a (by omega))
  have HF := Lib.hid hf
  have HAT := Lib.hid (fun b (hb : b < r) => show (setsV (sumL (F way) d r))[b]? = some (.int .i64 ((sumS (F way) d r b : Nat) : Int)) by rw [setsV_at (by rw [sumL_len]; exact hb), sumL_at hb])
  have hb0 := below_alloc w (.cells (dwC (ordC (planC h wd r gg) F) (way : Int) (.slice (some ⟨gn, 0, none⟩) r cn)) 49)
  have HLN := Lib.hid (sumL_len (F way) d r)
  have HES := Lib.hid (show endS (F way) d r = eM (fun a => sumS (F way) d r a + d a) r from rfl)
  have HST := Lib.hid (fun k => show eM (fun a => sumS (F way) d r a + d a) (k + 1) = max (eM (fun a => sumS (F way) d r a + d a) k) (sumS (F way) d r k + d k) from rfl)
  have HZ := Lib.hid (show eM (fun a => sumS (F way) d r a + d a) 0 = 0 from rfl)
  clear hC hO G hd hf
  generalize sumL (F way) d r = SL at *
  generalize endS (F way) d r = es at *
  generalize hsu : sumS (F way) d r = su at *
  generalize hem : eM (fun a => su a + d a) = em at *
  generalize dwC (ordC (planC h wd r gg) F) (way : Int) (.slice (some ⟨gn, 0, none⟩) r cn) = D at *
  clear hsu hem
  have hW1 : (w.alloc (.cells D 49)).heap[w.heap.size]? = some (.cells D 49 (0, 0)) := hB
  have HN0 := Lib.hid hN
  have HN := Lib.hid (hN.below hb0)
  clear hN
  go_enter Try.func29, Try.ntmps29
  go_wp2_with (first
    | (refine wpList_load_row rfl 49 _ rfl w.heap.size rfl 49 D (0, 0) _ hW1 Try.underlying49 rfl HSZ.out ?_)
    | (go_at_call 31; refine (HAH.out _ HN.out).mono ?_; rintro e w2 ⟨⟨gA, hgA, rfl, hA⟩, hb2⟩; have bD2 := hB.below hb2; have kN2 := (bD2.cell 202).trans HKN.out; clear HAH))
  have hB2 := below_step hb0 hb0.size hb2
  have hN2 := HN.out.below hb2
  rw [HLN.out] at *
  clear hB hb0 hW1 hb2 bD2 kN2 HKN
  go_loopw [4, 14] (fun vm vk wr => ∃ (k : Nat), k ≤ r ∧ vk = .int .i64 (k : Int) ∧ vm = .int .i64 ((em k : Nat) : Int) ∧ HeldB wr gA 3 (setsV SL) ∧ CellsAt wr (some ⟨gn, 0, none⟩) (ndL d (List.range r)) ∧ Below w.heap.size w wr) (fun _ vk _ => r - (intOf vk).toNat)
  case atStart => exact ⟨0, Nat.zero_le _, rfl, by rw [HZ.out]; rfl, hA, hN2, hB2⟩
  case round =>
    clear hA hN2 hB2
    obtain ⟨k, hk, rfl, rfl, hA, hN, hB⟩ := hrel
    by_cases hkr : k < r
    · have hrg := nd_cells_range hN (i := k) (by rw [List.length_range]; exact hkr)
      rw [range_at hkr] at hrg
      have hkrI : (k : Int) < (r : Int) := by omega
      have hA2 := hA.alloc (.cells (nd1 d k) 66)
      have hN2 := hN.below (below_alloc wr (.cells (nd1 d k) 66))
      have hB2 := hB.alloc hB.size (.cells (nd1 d k) 66)
      have bk := HeldB.new wr 66 (nd1 d k)
      have ck0 := bk.cell 0
      have ck1 := bk.cell 1
      rw [show (nd1 d k)[0]? = some (.int .i64 ((k : Nat) : Int)) from rfl] at ck0
      rw [show (nd1 d k)[1]? = some (.int .i64 ((d k : Nat) : Int)) from rfl] at ck1
      have cS := (hA2.cell k).trans (HAT.out k hkr)
      have hs81 := HF.out k hkr
      have he81 := HEF.out k hk
      have hst := HST.out k
      unfold nd1 at hA2 hN2 hB2 ck0 ck1 cS
      clear hA hN hB bk
      obtain ⟨mm, hmm⟩ : ∃ mm, em (k + 1) = mm := ⟨_, rfl⟩
      have HEQ := Lib.hid (show (Value.int .i64 (mm : Int)) = .int .i64 ((em (k + 1) : Nat) : Int) by rw [hmm])
      rw [hmm] at hst
      clear hmm
      generalize em k = y at *
      generalize su k = x at *
      have HMX := Lib.hid (show (if (y : Int) < (x : Int) + (d k : Int) then (x : Int) + (d k : Int) else (y : Int)) = (mm : Int) by rw [max_sum, hst])
      clear hst
      go_wp2_with (refine wpList_load_mid rfl 66 _ rfl gn (k * 2) rfl (nd1 d k).toList _ hrg Try.underlying66 rfl Try.sizeNd ?_; simp only [nd1])
      go_region
      rw [HMX.out]
      go_wp2
      go_roundw
      case rel => exact ⟨k + 1, by omega, by go_num, HEQ.out, hA2.below (below_drewN _ _ 1), hN2.below (below_drewN _ _ 1), hB2.trans (below_drewN _ _ 1)⟩
      case measure => simp [intOf]; omega
    · obtain rfl : k = r := by omega
      have he := HES.out
      clear hN hA
      go_wp2
      go_ret
      exact ⟨by first | rfl | (rw [he]; rfl), hB⟩

end Go.Proofs.Ytmbpffpkmjechaa
