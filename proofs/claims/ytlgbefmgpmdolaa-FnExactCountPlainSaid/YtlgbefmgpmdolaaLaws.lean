
/-
  Merged texts: LawB LawC LawH LawI Same.
-/
import Derived.Test.YtlgbefmgpmdolaaLawK
import Derived.Test.YtlgbefmgpmdolaaMathCE
import Derived.BigQuiet

/-
  The helpers of the laws that mark a result's memory and look whether the marks have stayed. (Walks.)
-/
namespace Go.Proofs.Ytlgbefmgpmdolaa
open Go.RowKit

/-- the digits of a number from 1 on; none of 0 -/
def digs : Nat → Nat → List UInt8
  | 0, _ => []
  | f + 1, n => if n = 0 then [] else digs f (n / 10) ++ [UInt8.ofNat (48 + n % 10)]

theorem digs_step (f q : Nat) (h : 0 < q) : digs (f + 1) q = digs f (q / 10) ++ [UInt8.ofNat (48 + q % 10)] := by
  rw [digs, if_neg (by omega)]

/-- enough fuel is enough -/
theorem digs_fuel : ∀ (f g q : Nat), q < 2 ^ f → f ≤ g → digs g q = digs f q
  | 0, g, q, h, _ => by
    obtain rfl : q = 0 := by omega
    cases g with
    | zero => rfl
    | succ g => rfl
  | f + 1, g + 1, q, h, hg => by
    by_cases h0 : q = 0
    · subst h0; rfl
    · rw [digs_step g q (by omega), digs_step f q (by omega), digs_fuel f g (q / 10) (by omega) (by omega)]
  | f + 1, 0, q, _, hg => by omega

theorem digs_len : ∀ (f q : Nat), (digs f q).length ≤ f
  | 0, _ => Nat.le_refl _
  | f + 1, q => by
    rw [digs]
    split
    · simp
    · rw [List.length_append]; have := digs_len f (q / 10); simp; omega

def markS (k : Int) : ByteArray := if k ≤ 0 then ⟨#[109, 48]⟩ else ⟨(109 :: digs 64 k.toNat).toArray⟩

set_option maxHeartbeats 400000 in
theorem markText_any (k : Int) (w : World) (h1 : k ≤ 1099511627776) :
    Calls Try.prog 54 #[.int .i64 k] w
      fun e w' => e = .returned (.string (markS k)) ∧ Below w.heap.size w w' := by
  go_enter Try.func54, Try.ntmps54
  by_cases h0 : k ≤ 0
  · have hm : markS k = ⟨#[109, 48]⟩ := by rw [markS, if_pos h0]
    have HM := Lib.hid hm; clear hm
    go_wp2
    go_ret
    exact ⟨ret_str HM.out.symm, Below.refl _ _⟩
  · have hm : markS k = ⟨(109 :: digs 64 k.toNat).toArray⟩ := by rw [markS, if_neg h0]
    have HM := Lib.hid hm; clear hm
    go_wp2
    go_loopw [0, 3] (fun n t wr => ∃ (q : Nat) (out : List UInt8), n = .int .i64 q ∧ q ≤ 1099511627776 ∧ t = .string ⟨out.toArray⟩ ∧ digs 64 q ++ out = digs 64 k.toNat ∧ Below w.heap.size w wr) (fun n _ _ => (intOf n).toNat)
    case atStart => exact ⟨k.toNat, [], by rw [Int.toNat_of_nonneg (by omega)], by omega, rfl, by simp, Below.refl _ _⟩
    case round =>
      obtain ⟨q, out, rfl, hq, rfl, hd, hb⟩ := hrel
      have hol : out.length ≤ 64 := by
        have h := congrArg List.length hd
        have h' := digs_len 64 k.toNat
        rw [List.length_append] at h; omega
      have HD := Lib.hid hd; clear hd
      by_cases hlt : 0 < q
      · go_wp2_with (refine wpList_str_of_bytes _ rfl 110 9 5 _ rfl Try.underlying110 Try.underlying5 Try.underlying9 _ 1 _ rfl [UInt8.ofNat (48 + q % 10)] rfl (CellsAt.one_byte _ _ _ _ ?c1) ?_)
        case c1 => rw [UInt8.toNat_ofNat', Nat.mod_eq_of_lt (by omega)]; omega
        go_roundw
        case rel => exact ⟨q / 10, UInt8.ofNat (48 + q % 10) :: out, by go_num, by omega, congrArg Value.string (byte_app _ _ _ (UInt8.ofNat_add 48 (q % 10)).symm), by rw [← HD.out, digs_step 63 q hlt, digs_fuel 63 64 (q / 10) (by omega) (by omega), List.append_assoc]; rfl, hb.alloc hb.size _⟩
        case measure => simp [intOf]; omega
      · obtain rfl : q = 0 := by omega
        go_wp2
        go_ret
        exact ⟨ret_str (by rw [HM.out, ← HD.out]; rfl), hb⟩

/-- the marks that the laws write: from number k on, n of them -/
def marks (k n : Nat) : List ByteArray := (List.range n).map fun i => markS ((k + i : Nat) : Int)

theorem marks_len (k n : Nat) : (marks k n).length = n := by simp [marks]
theorem marks_succ (k n : Nat) : marks k (n + 1) = marks k n ++ [markS ((k + n : Nat) : Int)] := by
  simp [marks, List.range_succ]
theorem marks_getD (k n j : Nat) (h : j < n) : (marks k n).getD j ByteArray.empty = markS ((k + j : Nat) : Int) := by
  simp [marks, h]

set_option maxHeartbeats 400000 in
theorem markStringS_any (ao : Option Addr) (cap k base : Nat) (l : List ByteArray) (w : World) (hl : l.length ≤ 1048576) (hk1 : k ≤ 16777216)
    (hown : w.ownsRow base 9 1 (.slice ao l.length cap) l.length (l.map Value.string)) :
    Calls Try.prog 24 #[.slice ao l.length cap, .int .i64 k] w
      fun e w' => e = .returned (.int .i64 ((k + l.length : Nat) : Int)) ∧ w'.ownsRow base 9 1 (.slice ao l.length cap) l.length ((marks k l.length).map Value.string) ∧ w.grownBy w' (Value.ownBlock (.slice ao l.length cap)) := by
  go_enter Try.func24, Try.ntmps24
  go_wp2
  go_loopw [1, 5] (fun t i wr => ∃ (j : Nat), j ≤ l.length ∧ i = .int .i64 j ∧ t = .int .i64 ((k + j : Nat) : Int) ∧ wr.ownsRow base 9 1 (.slice ao l.length cap) l.length ((marks k j).map Value.string ++ (l.drop j).map Value.string) ∧ w.grownBy wr (Value.ownBlock (.slice ao l.length cap))) (fun _ i _ => l.length - (intOf i).toNat)
  case atStart => exact ⟨0, Nat.zero_le _, rfl, rfl, by simpa [marks] using hown, World.grownBy.refl _ _⟩
  case round =>
    clear hown
    obtain ⟨j, hj, rfl, rfl, hown, hg⟩ := hrel
    by_cases hlt : j < l.length
    · obtain ⟨g, cap', hv, hbg, hgs⟩ := ownsRow_some hown (by omega)
      simp only [Value.slice.injEq, true_and] at hv
      obtain ⟨rfl, rfl⟩ := hv
      go_wp2_with fail
      refine (markText_any _ _ (by omega)).mono ?_
      rintro e w1 ⟨rfl, hb1⟩
      have hown1 := ownsRow_below hown hb1
      have hcell := hown1.cellAt j (by omega)
      rw [List.getElem?_append_right (by simp [marks_len]), List.length_map, marks_len, Nat.sub_self, drop_getD l j ByteArray.empty hlt, List.map_cons, List.getElem?_cons_zero] at hcell
      have hfz := hown1.frozenAt j
      have hst := hown1.stored j (.string (markS ((k + j : Nat) : Int)))
      rw [drop_getD l j ByteArray.empty hlt, List.map_cons, set_mid _ _ _ _ _ (by simp [marks_len]), ← List.map_singleton, ← List.map_append, ← marks_succ] at hst
      have hg2 := grownBy_trans hg (grownBy_trans (grownBy_of_below hb1 _) hst.2)
      have hst1 := hst.1
      clear hown hown1 hg hst
      go_wp2
      go_roundw
      case rel => exact ⟨j + 1, by omega, by go_num, by go_num, hst1, hg2⟩
      case measure => simp [intOf]; omega
    · obtain rfl : j = l.length := by omega
      rw [List.drop_length, List.map_nil, List.append_nil] at hown
      go_wp2
      go_ret
      exact ⟨rfl, hown, hg⟩

set_option maxHeartbeats 400000 in
theorem heldStringS_any (ao : Option Addr) (cap k n : Nat) (w : World) (hl : n ≤ 1048576) (hk1 : k ≤ 16777216)
    (hc : CellsAt w ao ((marks k n).map Value.string)) :
    Calls Try.prog 25 #[.slice ao n cap, .int .i64 k] w
      fun e w' => e = .returned (.int .i64 ((k + n : Nat) : Int)) ∧ Below w.heap.size w w' := by
  go_enter Try.func25, Try.ntmps25
  go_wp2
  go_loopw [1, 5] (fun t i wr => ∃ (j : Nat), j ≤ n ∧ i = .int .i64 j ∧ t = .int .i64 ((k + j : Nat) : Int) ∧ Below w.heap.size w wr) (fun _ i _ => n - (intOf i).toNat)
  case atStart => exact ⟨0, Nat.zero_le _, rfl, rfl, Below.refl _ _⟩
  case round =>
    obtain ⟨j, hj, rfl, rfl, hb⟩ := hrel
    by_cases hlt : j < n
    · obtain ⟨b, off, rfl, hck⟩ := (hc.below hb).str j (by rw [marks_len]; exact hlt)
      rw [marks_getD _ _ _ hlt] at hck
      have k0 := cell_regrown hck
      have cQ : ∀ d os, Calls Try.prog 54 #[.int .i64 ((k : Int) + (j : Int))] (Sort.grow (redrawn wr d) os) fun e w'' => e = .returned (.string (markS ((k + j : Nat) : Int))) ∧ ∃ p : Regrown, w'' = Sort.grow (redrawn wr p.d) p.os := fun d os => Calls.regrown_of (markText_any _ _ (by omega))
      clear hc hck
      go_wp2
      refine wp_region_quiet_below (by kernel_rfl) (by kernel_rfl) ?_
      repeat (quiet_step (exact cQ _ _))
      refine wpQuiet_nil ?_
      intro _ hw'
      obtain ⟨⟨dq, osq⟩, hw''⟩ := hw'
      subst hw''
      go_wp2
      go_roundw
      case rel => exact ⟨j + 1, by omega, by go_num, by go_num, below_step hb hb.size (below_regrown wr dq osq)⟩
      case measure => simp [intOf]; omega
    · obtain rfl : j = n := by omega
      go_wp2
      go_ret
      exact ⟨rfl, hb⟩

end Go.Proofs.Ytlgbefmgpmdolaa

/-
  The law on the question whether a list is a plan. (Walk.)
-/
namespace Go.Proofs.Ytlgbefmgpmdolaa
open Go.RowKit

theorem szFn_bound : ∀ (l : List ByteArray) (n : Int), ¬ szFn l n < 0 → szFn l n ≤ n ∧ ∀ s ∈ l, (s.size : Int) ≤ n
  | [], n, _ => ⟨Int.le_refl _, fun s hs => by cases hs⟩
  | s :: l, n, h => by
    rw [szFn] at h ⊢
    by_cases hn : n - (s.size : Int) < 0
    · rw [if_pos hn] at h; omega
    · rw [if_neg hn] at h ⊢
      have := szFn_bound l _ h
      refine ⟨by omega, fun t ht => ?_⟩
      rcases List.mem_cons.1 ht with rfl | ht
      · omega
      · have := this.2 t ht; omega

/-- lists that the laws ask of are small -/
theorem szAll_bound {l : List ByteArray} {n : Int} (h : ¬ szAll l n < 0) : szAll l n ≤ n ∧ (l.length : Int) ≤ n ∧ ∀ s ∈ l, (s.size : Int) ≤ n := by
  unfold szAll at h ⊢
  by_cases hn : n - (l.length : Int) < 0
  · rw [if_pos hn] at h; omega
  · rw [if_neg hn] at h ⊢
    have := szFn_bound l _ h
    exact ⟨by omega, by omega, fun s hs => by have := this.2 s hs; omega⟩

end Go.Proofs.Ytlgbefmgpmdolaa
