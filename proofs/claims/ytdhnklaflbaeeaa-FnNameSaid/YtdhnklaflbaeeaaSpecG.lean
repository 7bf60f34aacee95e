
/-
  The model writes rows so often, and leaves out rows. (Walks.)
-/
import Derived.Test.YtdhnklaflbaeeaaSpecF
namespace Go.Proofs.Ytdhnklaflbaeeaa
open Go.RowKit

def oftenL (p : List ByteArray) (k t : Nat) : List ByteArray := (List.range t).map fun t => p.getD (t / k) ByteArray.empty
def oftenB (p : List ByteArray) (k : Nat) : List ByteArray := oftenL p k (p.length * k)
theorem oftenL_len (p : List ByteArray) (k t : Nat) : (oftenL p k t).length = t := by simp [oftenL]
theorem oftenL_succ {p : List ByteArray} {k i n : Nat} (hn : n < k) : oftenL p k (i * k + n + 1) = oftenL p k (i * k + n) ++ [p.getD i ByteArray.empty] := by
  unfold oftenL
  rw [List.range_succ, List.map_append, List.map_singleton, (cell_div i n k hn).1]

set_option maxHeartbeats 1000000 in
theorem l1Often_any (ao : Option Addr) (cap n : Nat) (p : List ByteArray) (k : Nat) (w : World) (hn : p.length = n) (hl : p.length ≤ 1000) (hk : k ≤ 3) (hc : CellsAt w ao (p.map Value.string)) :
    Calls Try.prog 107 #[.slice ao n cap, .int .i64 k] w
      fun e w' => ∃ ro rc, e = .returned (.slice ro (p.length * k) rc) ∧ w'.ownsRow w.heap.size 9 1 (.slice ro (p.length * k) rc) (p.length * k) ((oftenB p k).map Value.string) ∧ Below w.heap.size w w' := by
  subst hn
  obtain ⟨it, hti, htz, ht1, ht2⟩ := info_parts Try.infoText
  have HC := Lib.hid hc; clear hc
  go_enter Try.func107, Try.ntmps107
  go_wp2
  have hW1 := below_alloc w (.cells #[] 9)
  have hr1 : (w.alloc (.cells #[] 9)).ownsRow w.heap.size 9 1 (.slice (some ⟨w.heap.size, 0, none⟩) 0 0) 0 ((oftenL p k 0).map Value.string) := World.ownsRow_made w #[] 0 (Nat.le_refl _) (Nat.zero_le _) rfl
  go_loopw [5, 6] (fun vo vi wr => ∃ (i : Nat) (ro : Option Addr) (rc : Nat), i ≤ p.length ∧ vi = .int .i64 i ∧ vo = .slice ro (i * k) rc ∧ wr.ownsRow w.heap.size 9 1 (.slice ro (i * k) rc) (i * k) ((oftenL p k (i * k)).map Value.string) ∧ Below w.heap.size w wr) (fun _ vi _ => p.length - (intOf vi).toNat)
  case atStart => exact ⟨0, _, _, Nat.zero_le _, rfl, by rw [Nat.zero_mul], by rw [Nat.zero_mul]; exact hr1, hW1⟩
  case round =>
    clear hr1 hW1
    obtain ⟨i, ro, rc, hi, rfl, rfl, hrow, hb⟩ := hrel
    by_cases hlt : i < p.length
    · go_wp2
      go_loopw [5, 7] (fun vo vn wm => ∃ (t : Nat) (ro : Option Addr) (rc : Nat), t ≤ k ∧ vn = .int .i64 t ∧ vo = .slice ro (i * k + t) rc ∧ wm.ownsRow w.heap.size 9 1 (.slice ro (i * k + t) rc) (i * k + t) ((oftenL p k (i * k + t)).map Value.string) ∧ Below w.heap.size w wm) (fun _ vn _ => k - (intOf vn).toNat)
      case atStart => exact ⟨0, _, _, Nat.zero_le _, rfl, rfl, hrow, hb⟩
      case round =>
        clear hrow hb
        obtain ⟨t, ro, rc, ht, rfl, rfl, hrow, hb⟩ := hrel
        have hbs := hb.size
        by_cases htl : t < k
        · obtain ⟨b, off, ha, hck⟩ := (HC.out.below hb).str i hlt
          subst ha
          have HST := Lib.hid (oftenL_succ (p := p) (i := i) htl)
          have hmul : i * k ≤ 1000 * 3 := Nat.mul_le_mul (by omega) hk
          have hb1' : i * k + t + 1 ≤ maxLen := by unfold maxLen; omega
          have hb2' : (i * k + t + 1) * 16 ≤ 140737488355328 := by omega
          generalize hgs : p.getD i ByteArray.empty = s at *
          have hst : (oftenL p k (i * k + t)).map Value.string ++ [.string s] = (oftenL p k (i * k + t + 1)).map Value.string := by rw [HST.out, List.map_append]; rfl
          have HSTT := Lib.hid hst; clear hst hgs
          go_wp2_with (at_builtin; refine wpList_push _ rfl (.tmp 20) (.tmp 25) 23 rfl w.heap.size 9 it (.string ⟨#[]⟩) 16 Try.underlying23 hti htz ht1 ht2 rfl ro (i * k + t) rc _ rfl (hrow.alloc _) _ _ _ rfl (cell_new _ _ _) rfl hb1' hb2' (by simp; omega) ?_; intro ro2 rc2 w2 hrow2 hg2 hnew2)
          go_roundw
          case rel => exact ⟨t + 1, ro2, rc2, by omega, by go_num, rfl, owns_eq hrow2 HSTT.out, below_push hb hbs hg2 (fun a ha => (owns_lt hrow a ha).1)⟩
          case measure => simp [intOf]; omega
        · obtain rfl : t = k := by omega
          go_wp2
          go_roundw
          case rel => exact ⟨i + 1, ro, rc, by omega, by go_num, by rw [Nat.succ_mul], by rw [Nat.succ_mul]; exact hrow, hb⟩
          case measure => simp [intOf]; omega
    · obtain rfl : i = p.length := by omega
      go_wp2
      go_ret
      exact ⟨_, _, rfl, hrow, hb⟩

end Go.Proofs.Ytdhnklaflbaeeaa
