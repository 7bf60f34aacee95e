/-
  The program's texts: small letters, equal lists, a plan's rows. (Walks.)
-/
import Derived.Test.YtpgcpmfemcfoaaaImplABR
import Derived.Test.YtpgcpmfemcfoaaaLawKR
import Derived.Test.YtpgcpmfemcfoaaaSpecAR

namespace Go.Proofs.Ytpgcpmfemcfoaaa
open Go.RowKit

set_option maxHeartbeats 400000 in
theorem isSmall_any (s : ByteArray) (w : World) (hs : s.size ≤ 1048576) :
    Calls Try.prog 122 #[.string s] w fun e w' => e = .returned (.bool (smallB s.data.toList)) ∧ w' = w := by
  go_enter Try.func122, Try.ntmps122
  go_wp2
  go_loop [6] (fun t => ∃ (j : Nat), j ≤ s.size ∧ t = .int .i64 j ∧ smallB (s.data.toList.take j) = true) (fun t => s.size - (intOf t).toNat)
  case atStart => exact ⟨0, Nat.zero_le _, rfl, rfl⟩
  case round =>
    obtain ⟨j, hj, rfl, hsm⟩ := hrel
    have HSM := Lib.hid hsm; clear hsm
    by_cases hjl : j < s.size
    · have hN := @smallB_no s.data.toList j (by rw [size_list]; exact hjl)
      have hY := @smallB_step s.data.toList j (by rw [size_list]; exact hjl)
      have hidx := at_list s j hjl
      generalize s.data.toList.getD j 0 = c at *
      have HN2 := Lib.hid hN
      have HY2 := Lib.hid hY
      clear hN hY
      by_cases h1 : 97 ≤ c.toNat
      · by_cases h2 : c.toNat ≤ 122
        · go_wp2
          go_round
          case rel => exact ⟨j + 1, by omega, by go_num, HY2.out HSM.out ⟨h1, h2⟩⟩
          case measure => simp [intOf]; omega
        · go_wp2
          go_ret
          exact ⟨ret_bool (HN2.out (by omega)).symm, rfl⟩
      · go_wp2
        go_ret
        exact ⟨ret_bool (HN2.out (by omega)).symm, rfl⟩
    · have hfin : smallB s.data.toList = true := by have := HSM.out; rwa [List.take_of_length_le (by rw [size_list]; omega)] at this
      have HF := Lib.hid hfin; clear hfin
      go_wp2
      go_ret
      exact ⟨ret_bool HF.out.symm, rfl⟩

set_option maxHeartbeats 400000 in
theorem slicesEqual_any (ao bo : Option Addr) (ca cb ln lm : Nat) (l m : List ByteArray) (w : World) (hln : l.length = ln) (hlm : m.length = lm) (hl : l.length ≤ maxLen)
    (ha : CellsAt w ao (l.map Value.string)) (hb : CellsAt w bo (m.map Value.string)) :
    Calls Try.prog 91 #[.slice ao ln ca, .slice bo lm cb] w
      fun e w' => e = .returned (.bool (eqS l m)) ∧ Quiet w w' := by
  subst hln; subst hlm
  unfold maxLen at hl
  go_enter Try.func91, Try.ntmps91
  by_cases hlen : l.length = m.length
  · have hne : ((l.length : Int) != (m.length : Int)) = false := by simp [hlen]
    go_wp2
    go_loopw [13] (fun i wr => ∃ (k q : Nat), k ≤ l.length ∧ i = .int .i64 k ∧ wr = w.drewN q ∧ l.take k = m.take k) (fun i _ => l.length - (intOf i).toNat)
    case atStart => exact ⟨0, 0, Nat.zero_le _, rfl, rfl, rfl⟩
    case round =>
      obtain ⟨k, q, hk, rfl, rfl, hq⟩ := hrel
      have HQ := Lib.hid hq; clear hq
      by_cases hlt : k < l.length
      · obtain ⟨b, off, rfl, hck⟩ := ha.str k hlt
        obtain ⟨b', off', rfl, hck'⟩ := hb.str k (by omega)
        have hlt' : k < m.length := by omega
        have HS := Lib.hid (eqS_step hlt hlt' HQ.out)
        have HN := Lib.hid (@eqS_no l m k)
        have HL := Lib.hid hlen
        clear ha hb hlen
        generalize l.getD k ByteArray.empty = s at *
        generalize m.getD k ByteArray.empty = t at *
        go_wp2
        go_quiet (fail)
        go_wp2
        · have hst : (!s.toList == t.toList) = true := by assumption
          go_ret
          exact ⟨ret_bool (HN.out (str_ne hst)).symm, q + nq, by simp⟩
        · have hst : (!s.toList == t.toList) = false := by assumption
          go_roundw
          case rel => exact ⟨k + 1, q + nq, by omega, by go_num, by simp, HS.out (str_eq hst)⟩
          case measure => simp [intOf]; omega
      · go_wp2
        go_ret
        exact ⟨ret_bool (eqS_all hlen hlt HQ.out).symm, _, rfl⟩
  · have hne : ((l.length : Int) != (m.length : Int)) = true := by simp; omega
    have hf := eqS_len hlen
    have HF := Lib.hid hf; clear hf hlen
    go_wp2
    go_ret
    exact ⟨ret_bool HF.out.symm, 0, rfl⟩

/-- a row of a plan's letters -/
def rowT (wd : Nat) (g : Nat → Nat → Nat) (i : Nat) : List UInt8 := (List.range wd).map fun j => UInt8.ofNat (97 + g i j)
/-- a plan's texts -/
def rowsT (h wd : Nat) (g : Nat → Nat → Nat) : List ByteArray := (List.range h).map fun i => ⟨(rowT wd g i).toArray⟩
theorem rowsT_len (h wd : Nat) (g : Nat → Nat → Nat) : (rowsT h wd g).length = h := by simp [rowsT]
theorem rowsT_succ (h wd : Nat) (g : Nat → Nat → Nat) : rowsT (h + 1) wd g = rowsT h wd g ++ [⟨(rowT wd g h).toArray⟩] := by simp [rowsT, List.range_succ]
theorem rowT_len (wd : Nat) (g : Nat → Nat → Nat) (i : Nat) : (rowT wd g i).length = wd := by simp [rowT]
theorem rowT_succ (wd : Nat) (g : Nat → Nat → Nat) (i : Nat) : rowT (wd + 1) g i = rowT wd g i ++ [UInt8.ofNat (97 + g i wd)] := by simp [rowT, List.range_succ]

theorem Try.infoByte2 : (Try.prog.info? 5).map (fun i => (i.zero, i.size, i.bytes)) = some (some (.int .u8 0), 1, 1) := by kernel_rfl
theorem Try.infoText2 : (Try.prog.info? 9).map (fun i => (i.zero, i.size, i.bytes)) = some (some (.string ⟨#[]⟩), 1, 16) := by kernel_rfl

set_option maxHeartbeats 1000000 in
theorem rows_any (h wd r : Nat) (g : Nat → Nat → Nat) (w : World) (hh : h ≤ 6) (hw : wd ≤ 6) (hg : ∀ i j, g i j ≤ 100) :
    Calls Try.prog 92 #[.agg (planC h wd r g)] w
      fun e w' => ∃ ro rc, e = .returned (.slice ro h rc) ∧ w'.ownsRow w.heap.size 9 1 (.slice ro h rc) h ((rowsT h wd g).map Value.string) ∧ Below w.heap.size w w' := by
  obtain ⟨ib, hbi, hbz, hb1, hb2⟩ := info_parts Try.infoByte2
  obtain ⟨it, hti, htz, ht1, ht2⟩ := info_parts Try.infoText2
  have hp0 := planC_0 h wd r g
  have hp1 := planC_1 h wd r g
  have hcell : ∀ i j, i < 6 → j < 6 → (planC h wd r g)[3 + i * 6 + j]? = some (.int .i64 (g i j : Nat)) := planC_at h wd r g
  have HCELL := Lib.hid hcell; clear hcell
  generalize planC h wd r g = C at *
  go_enter Try.func92, Try.ntmps92
  have hW : ∀ wr : World, Below (w.heap.size + 1) (w.alloc (.cells C 47)) wr → ∀ k, wr.cell? ⟨w.heap.size, k, none⟩ = C[k]? := fun wr hb k => by
    rw [hb.cell (p := ⟨w.heap.size, k, none⟩) (by show w.heap.size < _; omega)]
    exact World.cell?_alloc_at _ _ _ _ rfl
  have HW := Lib.hid hW; clear hW
  go_wp2_with (at_make; refine wpList_make_own _ rfl _ _ 23 rfl (w.heap.size + 1) 9 it (.string ⟨#[]⟩) 1 Try.underlying23 hti htz ht1 .i64 .i64 _ h rfl rfl rfl ?c2 ?c3 (by simp) ?_; rotate_left 2; intro w1 hown hgrow; have hb1 := below_of_grownBy (B := w.heap.size + 1) hgrow (by simp) (by simp); have hpl := HW.out w1 hb1)
  case c2 => rw [ht2]; omega
  case c3 => unfold maxLen; omega
  rw [World.size_alloc] at hown
  go_loopw [3, 12] (fun vo vi wr => ∃ (i : Nat) (ro : Option Addr) (rc : Nat), i ≤ h ∧ vi = .int .i64 i ∧ vo = .slice ro i rc ∧ wr.ownsRow (w.heap.size + 1) 9 1 (.slice ro i rc) i ((rowsT i wd g).map Value.string) ∧ Below (w.heap.size + 1) (w.alloc (.cells C 47)) wr) (fun _ i _ => h - (intOf i).toNat)
  case atStart => exact ⟨0, _, _, Nat.zero_le _, rfl, rfl, hown, hb1⟩
  case round =>
    clear hown hb1 hpl hgrow
    obtain ⟨i, ro, rc, hi, rfl, rfl, hrow, hb⟩ := hrel
    have hbs := hb.size
    rw [World.size_alloc] at hbs
    by_cases hlt : i < h
    · have hpl := HW.out wr hb
      go_wp2_with (at_make; refine wpList_make_full _ rfl _ _ 22 rfl (w.heap.size + 1) 5 ib (.int .u8 0) 1 Try.underlying22 hbi hbz hb1 .i64 .i64 _ _ wd rfl rfl rfl rfl ?d2 ?d3 hbs ?_; rotate_left 2; intro w2 htx hg2)
      case d2 => rw [hb2]; omega
      case d3 => unfold maxLen; omega
      have hown2 : w2.ownsRow (w.heap.size + 1) 5 1 (.slice (some ⟨wr.heap.size, 0, none⟩) wd wd) wd ((rowT 0 g i).map byteV ++ List.replicate (wd - 0) (.int .u8 0)) := by
        have h := htx
        rw [show (.int .u8 0 : Value).cells = #[.int .u8 0] from rfl, Nat.mul_one, toList_madeCells_one] at h
        simpa [rowT] using h
      have hrow2 := hrow.kept hg2 (by cases Value.ownBlock (.slice ro i rc) <;> simp)
      have hb3 : Below (w.heap.size + 1) (w.alloc (.cells C 47)) w2 := hb.trans (below_of_grownBy hg2 hbs (by simp))
      have hap : Apart ro (some ⟨wr.heap.size, 0, none⟩) := Apart.fresh (fun a ha => (owns_lt hrow a ha).2) (Nat.le_refl _) 0 none
      obtain ⟨G, hG⟩ : ∃ G, wr.heap.size = G := ⟨_, rfl⟩
      have hGs : w.heap.size + 1 ≤ G := by omega
      rw [hG] at hown2 hap
      rw [hG]
      clear htx hg2 hrow hb hpl hbs hG
      go_loopw [20] (fun vj wq => ∃ (j : Nat), j ≤ wd ∧ vj = .int .i64 j ∧ wq.ownsRow (w.heap.size + 1) 5 1 (.slice (some ⟨G, 0, none⟩) wd wd) wd ((rowT j g i).map byteV ++ List.replicate (wd - j) (.int .u8 0)) ∧
          wq.ownsRow (w.heap.size + 1) 9 1 (.slice ro i rc) i ((rowsT i wd g).map Value.string) ∧ Below (w.heap.size + 1) (w.alloc (.cells C 47)) wq) (fun vj _ => wd - (intOf vj).toNat)
      case atStart => exact ⟨0, Nat.zero_le _, rfl, hown2, hrow2, hb3⟩
      case round =>
        clear hown2 hrow2 hb3
        obtain ⟨j, hj, rfl, hown, hrow, hb⟩ := hrel
        by_cases hjl : j < wd
        · have hpl := HW.out wr hb
          have hci := HCELL.out i j (by omega) (by omega)
          have hcell := hown.cellAt j (by omega)
          rw [List.getElem?_append_right (by simp [rowT_len]), List.getElem?_replicate, if_pos (by simp [rowT_len]; omega)] at hcell
          have hfz := hown.frozenAt j
          have hst := hown.stored j (.int .u8 (97 + (g i j : Int)))
          rw [fill_set _ _ _ _ _ hjl (by simp [rowT_len]), byteV_of (n := 97 + (g i j : Int)) (m := 97 + g i j) (by omega) (by have := hg i j; omega), ← List.map_singleton, ← List.map_append, ← rowT_succ] at hst
          have hst1 := hst.1
          have hrow3 := owns_kept (bo := some ⟨G, 0, none⟩) (m' := wd) (cap' := wd) hrow (by exact hst.2) hap
          have hb4 := hb.setCell (p := ⟨G, j, none⟩) hGs (byteV (UInt8.ofNat (97 + g i j)))
          have hgx := hg i j
          have hbv : byteV (UInt8.ofNat (97 + g i j)) = .int .u8 (97 + (g i j : Int)) := (byteV_of (n := 97 + (g i j : Int)) (m := 97 + g i j) (by omega) (by omega)).symm
          rw [hbv] at hst1 hrow3 hb4
          generalize g i j = x at *
          clear hown hrow hb hst hbv
          go_wp2
          go_roundw
          case rel => exact ⟨j + 1, by omega, by go_num, hst1, hrow3, hb4⟩
          case measure => simp [intOf]; omega
        · obtain rfl : j = wd := by omega
          rw [Nat.sub_self, List.replicate_zero, List.append_nil] at hown
          have hbs := hb.size
          rw [World.size_alloc] at hbs
          have hs1 : i + 1 ≤ maxLen := by unfold maxLen; omega
          have hs2 : (i + 1) * 16 ≤ 140737488355328 := by omega
          have hst : (rowsT i j g).map Value.string ++ [.string ⟨(rowT j g i).toArray⟩] = (rowsT (i + 1) j g).map Value.string := by rw [rowsT_succ, List.map_append]; rfl
          have HST := Lib.hid hst; clear hst
          go_wp2_with (first
            | (at_builtin; refine wpList_push _ rfl (.tmp 35) (.tmp 38) 23 rfl (w.heap.size + 1) 9 it (.string ⟨#[]⟩) 16 Try.underlying23 hti htz ht1 ht2 rfl ro i rc _ rfl (hrow.alloc _) _ _ _ rfl (cell_new _ _ _) rfl hs1 hs2 (by simp; omega) ?_; intro ro2 rc2 w3 hrow3 hg3 hnew3)
            | (refine wpList_str_of_bytes _ rfl 22 9 5 _ rfl Try.underlying22 Try.underlying5 Try.underlying9 _ j _ rfl (rowT j g i) (rowT_len j g i) (owns_cells hown) ?_))
          go_roundw
          case rel => exact ⟨i + 1, ro2, rc2, by omega, by go_num, rfl, owns_eq hrow3 HST.out, below_push hb hbs hg3 (fun a ha => (owns_lt hrow a ha).1)⟩
          case measure => simp [intOf]; omega
    · obtain rfl : i = h := by omega
      go_wp2
      go_ret
      exact ⟨_, _, rfl, ownsRow_base hrow (Nat.le_succ _), (below_alloc w _).trans (hb.mono (Nat.le_succ _))⟩

end Go.Proofs.Ytpgcpmfemcfoaaa
