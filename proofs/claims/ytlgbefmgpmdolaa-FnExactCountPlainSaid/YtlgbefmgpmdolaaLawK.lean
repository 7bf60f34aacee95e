
/-
  Merged texts: LawA LawK.
-/
import Derived.Test.YtlgbefmgpmdolaaRows
import Derived.Test.YtlgbefmgpmdolaaRow
import Derived.BigQuiet

/-
  The helpers of the laws over lists of texts: sizes, copies, comparing. (Walks.)
-/
namespace Go.Proofs.Ytlgbefmgpmdolaa
open Go.RowKit

/-- what is left of 'left' behind the strings' lengths, or -1 -/
def szFn : List ByteArray → Int → Int
  | [], n => n
  | s :: l, n => if n - (s.size : Int) < 0 then -1 else szFn l (n - s.size)

def szAll (l : List ByteArray) (left : Int) : Int := if left - (l.length : Int) < 0 then -1 else szFn l (left - l.length)

theorem szFn_lt (l : List ByteArray) (k : Nat) (n : Int) (h : k < l.length) (hn : n - ((l.getD k ByteArray.empty).size : Int) < 0) : szFn (l.drop k) n = -1 := by
  rw [drop_getD l k ByteArray.empty h, szFn, if_pos hn]
theorem szFn_ge (l : List ByteArray) (k : Nat) (n : Int) (h : k < l.length) (hn : 0 ≤ n - ((l.getD k ByteArray.empty).size : Int)) : szFn (l.drop k) n = szFn (l.drop (k + 1)) (n - (l.getD k ByteArray.empty).size) := by
  rw [drop_getD l k ByteArray.empty h, szFn, if_neg (by omega)]

set_option maxHeartbeats 400000 in
theorem szStringS_any (ao : Option Addr) (cap : Nat) (l : List ByteArray) (left : Int) (w : World) (hl : l.length ≤ maxLen) (h0 : 0 ≤ left) (h1 : left ≤ 1048576)
    (hs : ∀ s ∈ l, s.size ≤ maxLen) (hc : CellsAt w ao (l.map Value.string)) :
    Calls Try.prog 26 #[.slice ao l.length cap, .int .i64 left] w
      fun e w' => e = .returned (.int .i64 (szAll l left)) ∧ w = w' := by
  unfold maxLen at hl hs
  go_enter Try.func26, Try.ntmps26
  go_wp2
  · go_ret
    exact ⟨ret_int (by rw [szAll, if_pos (by assumption)]), rfl⟩
  · have hge : 0 ≤ left - (l.length : Int) := by assumption
    have hq : szAll l left = szFn l (left - l.length) := by rw [szAll, if_neg (by omega)]
    have HQ := Lib.hid hq; clear hq
    go_loop [1, 5] (fun t i => ∃ (k : Nat) (n : Int), k ≤ l.length ∧ i = .int .i64 k ∧ t = .int .i64 n ∧ 0 ≤ n ∧ n ≤ 1048576 ∧ szFn (l.drop k) n = szAll l left) (fun _ i => l.length - (intOf i).toNat)
    case atStart => exact ⟨0, left - l.length, Nat.zero_le _, rfl, rfl, by omega, by omega, by rw [HQ.out]; rfl⟩
    case round =>
      clear HQ
      obtain ⟨k, n, hk, rfl, rfl, hn0, hn1, hq⟩ := hrel
      have HQ := Lib.hid hq; clear hq
      by_cases hlt : k < l.length
      · obtain ⟨b, off, rfl, hck⟩ := hc.str k hlt
        have hsk := hs _ (getD_mem ByteArray.empty hlt)
        have HLO := Lib.hid (szFn_lt l k n hlt); have HHI := Lib.hid (szFn_ge l k n hlt)
        clear hs hc
        generalize l.getD k ByteArray.empty = s at *
        go_wp2
        · go_ret
          exact ⟨ret_int (by rw [← HQ.out, HLO.out (by omega)]), rfl⟩
        · go_round
          case rel => exact ⟨k + 1, _, by omega, by go_num, rfl, by omega, by omega, by rw [← HQ.out, HHI.out (by omega)]⟩
          case measure => simp [intOf]; omega
      · go_wp2
        go_ret
        exact ⟨ret_int (by rw [← HQ.out, List.drop_eq_nil_of_le (by omega)]; rfl), rfl⟩

/-- two lists of texts are equal -/
def eqS (l m : List ByteArray) : Bool := decide (l = m)

theorem eqS_no {l m : List ByteArray} {k : Nat} (h : l.getD k ByteArray.empty ≠ m.getD k ByteArray.empty) : eqS l m = false := by
  unfold eqS; rw [decide_eq_false_iff_not]; rintro rfl; exact h rfl
theorem eqS_len {l m : List ByteArray} (h : l.length ≠ m.length) : eqS l m = false := by
  unfold eqS; rw [decide_eq_false_iff_not]; rintro rfl; exact h rfl
theorem eqS_all {l m : List ByteArray} {k : Nat} (hlen : l.length = m.length) (hk : ¬ k < l.length) (h : l.take k = m.take k) : eqS l m = true := by
  unfold eqS; rw [decide_eq_true_iff]
  rwa [List.take_of_length_le (by omega), List.take_of_length_le (by omega)] at h
theorem eqS_step {l m : List ByteArray} {k : Nat} (h1 : k < l.length) (h2 : k < m.length) (h : l.take k = m.take k) (he : l.getD k ByteArray.empty = m.getD k ByteArray.empty) : l.take (k + 1) = m.take (k + 1) := by
  rw [take_succ_getD l k ByteArray.empty h1, take_succ_getD m k ByteArray.empty h2, h, he]

set_option maxHeartbeats 400000 in
theorem eqStringS_any (ao bo : Option Addr) (ca cb ln lm : Nat) (l m : List ByteArray) (w : World) (hln : l.length = ln) (hlm : m.length = lm) (hl : l.length ≤ maxLen)
    (ha : CellsAt w ao (l.map Value.string)) (hb : CellsAt w bo (m.map Value.string)) :
    Calls Try.prog 23 #[.slice ao ln ca, .slice bo lm cb] w
      fun e w' => e = .returned (.bool (eqS l m)) ∧ Quiet w w' := by
  subst hln; subst hlm
  unfold maxLen at hl
  go_enter Try.func23, Try.ntmps23
  by_cases hlen : l.length = m.length
  · have hne : ((l.length : Int) != (m.length : Int)) = false := by simp [hlen]
    go_wp2
    go_loopw [5] (fun i wr => ∃ (k q : Nat), k ≤ l.length ∧ i = .int .i64 k ∧ wr = w.drewN q ∧ l.take k = m.take k) (fun i _ => l.length - (intOf i).toNat)
    case atStart => exact ⟨0, 0, Nat.zero_le _, rfl, rfl, rfl⟩
    case round =>
      obtain ⟨k, q, hk, rfl, rfl, hq⟩ := hrel
      have HQ := Lib.hid hq; clear hq
      by_cases hlt : k < l.length
      · obtain ⟨b, off, rfl, hck⟩ := ha.str k hlt
        obtain ⟨b', off', rfl, hck'⟩ := hb.str k (by omega)
        have hlt' : k < m.length := by omega
        have HS := Lib.hid (eqS_step hlt hlt' HQ.out)
        have HN := Lib.hid (@eqS_no l m k)
        have HL := Lib.hid hlen
        clear ha hb hlen
        generalize l.getD k ByteArray.empty = s at *
        generalize m.getD k ByteArray.empty = t at *
        go_wp2
        go_quiet (fail)
        go_wp2
        · have hst : (!s.toList == t.toList) = true := by assumption
          go_ret
          exact ⟨ret_bool (HN.out (str_ne hst)).symm, q + nq, by simp⟩
        · have hst : (!s.toList == t.toList) = false := by assumption
          go_roundw
          case rel => exact ⟨k + 1, q + nq, by omega, by go_num, by simp, HS.out (str_eq hst)⟩
          case measure => simp [intOf]; omega
      · go_wp2
        go_ret
        exact ⟨ret_bool (eqS_all hlen hlt HQ.out).symm, _, rfl⟩
  · have hne : ((l.length : Int) != (m.length : Int)) = true := by simp; omega
    have hf := eqS_len hlen
    have HF := Lib.hid hf; clear hf hlen
    go_wp2
    go_ret
    exact ⟨ret_bool HF.out.symm, 0, rfl⟩

theorem Try.infoStr : (Try.prog.info? 9).map (fun i => (i.zero, i.size, i.bytes)) = some (some (.string ⟨#[]⟩), 1, 16) := by kernel_rfl

set_option maxHeartbeats 400000 in
theorem toStringS_any (ao : Option Addr) (cap : Nat) (l : List ByteArray) (w : World) (hl : l.length ≤ 1048576) (ha : CellsAt w ao (l.map Value.string)) :
    Calls Try.prog 28 #[.slice ao l.length cap] w
      fun e w' => ∃ g c, e = .returned (.slice (some ⟨g, 0, none⟩) l.length c) ∧ w'.ownsRow w.heap.size 9 1 (.slice (some ⟨g, 0, none⟩) l.length c) l.length (l.map Value.string) ∧ Below w.heap.size w w' := by
  obtain ⟨i0, hi, hz0, hz1, hz2⟩ := info_parts Try.infoStr
  go_enter Try.func28, Try.ntmps28
  go_wp2_with (at_make; refine wpList_make_full _ rfl _ _ 31 rfl w.heap.size 9 i0 (.string ⟨#[]⟩) 1 Try.underlying31 hi hz0 hz1 .i64 .i64 _ _ l.length rfl rfl rfl rfl ?c2 ?c3 (Nat.le_refl _) ?_; rotate_left 2; intro w1 hown hgrow)
  case c2 => rw [hz2]; omega
  case c3 => unfold maxLen; omega
  have hb1 : Below w.heap.size w w1 := (Below.refl _ _).grown hgrow (Nat.le_refl _) (by simp)
  have hown1 : w1.ownsRow w.heap.size 9 1 (.slice (some ⟨w.heap.size, 0, none⟩) l.length l.length) l.length ((l.take 0).map Value.string ++ List.replicate (l.length - 0) (.string ⟨#[]⟩)) := by
    have h := hown
    rw [show (.string ⟨#[]⟩ : Value).cells = #[.string ⟨#[]⟩] from rfl, Nat.mul_one, toList_madeCells_one] at h
    simpa using h
  clear hown hgrow
  go_loopw [4] (fun i wr => ∃ (k : Nat), k ≤ l.length ∧ i = .int .i64 k ∧ Below w.heap.size w wr ∧ wr.ownsRow w.heap.size 9 1 (.slice (some ⟨w.heap.size, 0, none⟩) l.length l.length) l.length ((l.take k).map Value.string ++ List.replicate (l.length - k) (.string ⟨#[]⟩))) (fun i _ => l.length - (intOf i).toNat)
  case atStart => exact ⟨0, Nat.zero_le _, rfl, hb1, hown1⟩
  case round =>
    clear hb1 hown1
    obtain ⟨k, hk, rfl, hb, hown⟩ := hrel
    by_cases hlt : k < l.length
    · obtain ⟨b, off, rfl, hck⟩ := (ha.below hb).str k hlt
      have hcell := hown.cellAt k (by omega)
      rw [List.getElem?_append_right (by simp; omega), List.getElem?_replicate, if_pos (by simp; omega)] at hcell
      have hfz := hown.frozenAt k
      have hst := (hown.stored k (.string (l.getD k ByteArray.empty))).1
      rw [fill_set _ _ _ _ _ hlt (by simp; omega), ← List.map_singleton, ← List.map_append, ← take_succ_getD l k _ hlt] at hst
      have hb2 := hb.setCell (p := ⟨w.heap.size, k, none⟩) (Nat.le_refl _) (.string (l.getD k ByteArray.empty))
      clear ha hown hb
      generalize l.getD k ByteArray.empty = s at *
      go_wp2
      go_roundw
      case rel => exact ⟨k + 1, by omega, by go_num, hb2, hst⟩
      case measure => simp [intOf]; omega
    · obtain rfl : k = l.length := by omega
      rw [List.take_length, Nat.sub_self, List.replicate_zero, List.append_nil] at hown
      go_wp2
      go_ret
      exact ⟨_, _, rfl, hown, hb⟩

end Go.Proofs.Ytlgbefmgpmdolaa

/-
  Small facts of the laws' walks, and their helpers over lists of numbers: compared, marked, held. (Merged texts: LawH LawI Same.)
-/
/-
  Small facts that the walks of the laws use.
-/
namespace Go.Proofs.Ytlgbefmgpmdolaa
open Go.RowKit

/-- what a later call owns lies in other blocks than what was there -/
theorem apart_base {W W' : World} {b1 : Nat} {e1 e2 : TypeId} {s1 s2 n1 n2 m1 m2 c1 c2 : Nat} {ao bo : Option Addr} {xs ys : List Value}
    (h1 : W.ownsRow b1 e1 s1 (.slice ao m1 c1) n1 xs) (h2 : W'.ownsRow W.heap.size e2 s2 (.slice bo m2 c2) n2 ys) : Apart ao bo := fun a b ha hb => by
  have := (owns_lt h1 a ha).2
  have := (owns_lt h2 b hb).1
  omega

theorem apart_base' {W W' : World} {b1 B : Nat} {e1 e2 : TypeId} {s1 s2 n1 n2 m1 m2 c1 c2 : Nat} {ao bo : Option Addr} {xs ys : List Value}
    (h1 : W.ownsRow b1 e1 s1 (.slice ao m1 c1) n1 xs) (h2 : W'.ownsRow B e2 s2 (.slice bo m2 c2) n2 ys) (hB : W.heap.size ≤ B) : Apart ao bo := fun a b ha hb => by
  have := (owns_lt h1 a ha).2
  have := (owns_lt h2 b hb).1
  omega

/-- marks are written into what the call owns -/
theorem below_mark {B b1 : Nat} {W w1 w2 : World} {e s n m c : Nat} {bo : Option Addr} {xs : List Value} (hb : Below B W w1) (hown : w1.ownsRow b1 e s (.slice bo m c) n xs) (hB : B ≤ b1) (hg : w1.grownBy w2 (Value.ownBlock (.slice bo m c))) (hW : B ≤ w1.heap.size) : Below B W w2 :=
  hb.trans (below_of_grownBy hg hW (fun k hk => by
    cases bo with
    | none => simp [Value.ownBlock] at hk
    | some b => simp only [Value.ownBlock, Option.some.injEq] at hk; subst hk; exact Nat.le_trans hB (owns_lt hown b rfl).1))

theorem quiet_below {w w' : World} (h : Quiet w w') : Below w.heap.size w w' := h.below _
theorem eqS_self (l : List ByteArray) : eqS l l = true := by unfold eqS; simp

end Go.Proofs.Ytlgbefmgpmdolaa

/-
  The laws' helpers over lists of numbers: compared, marked, held. (Walks.)
-/
namespace Go.Proofs.Ytlgbefmgpmdolaa
open Go.RowKit

def eqI (l m : List Int) : Bool := decide (l = m)
theorem eqI_self (l : List Int) : eqI l l = true := by unfold eqI; simp
theorem eqI_no {l m : List Int} {k : Nat} (h : l.getD k 0 ≠ m.getD k 0) : eqI l m = false := by
  unfold eqI; rw [decide_eq_false_iff_not]; rintro rfl; exact h rfl
theorem eqI_len {l m : List Int} (h : l.length ≠ m.length) : eqI l m = false := by
  unfold eqI; rw [decide_eq_false_iff_not]; rintro rfl; exact h rfl
theorem eqI_all {l m : List Int} {k : Nat} (hlen : l.length = m.length) (hk : ¬ k < l.length) (h : l.take k = m.take k) : eqI l m = true := by
  unfold eqI; rw [decide_eq_true_iff]
  rwa [List.take_of_length_le (by omega), List.take_of_length_le (by omega)] at h
theorem eqI_step {l m : List Int} {k : Nat} (h1 : k < l.length) (h2 : k < m.length) (h : l.take k = m.take k) (he : l.getD k 0 = m.getD k 0) : l.take (k + 1) = m.take (k + 1) := by
  rw [take_succ_getD l k 0 h1, take_succ_getD m k 0 h2, h, he]

set_option maxHeartbeats 400000 in
theorem eqIntS_any (ao bo : Option Addr) (ca cb ln lm : Nat) (l m : List Int) (w : World) (hln : l.length = ln) (hlm : m.length = lm) (hl : l.length ≤ maxLen)
    (ha : CellsAt w ao (l.map (Value.int .i64))) (hb : CellsAt w bo (m.map (Value.int .i64))) :
    Calls Try.prog 11 #[.slice ao ln ca, .slice bo lm cb] w
      fun e w' => e = .returned (.bool (eqI l m)) ∧ Quiet w w' := by
  subst hln; subst hlm
  unfold maxLen at hl
  go_enter Try.func11, Try.ntmps11
  by_cases hlen : l.length = m.length
  · have hne : ((l.length : Int) != (m.length : Int)) = false := by simp [hlen]
    go_wp2
    go_loopw [5] (fun i wr => ∃ (k q : Nat), k ≤ l.length ∧ i = .int .i64 k ∧ wr = w.drewN q ∧ l.take k = m.take k) (fun i _ => l.length - (intOf i).toNat)
    case atStart => exact ⟨0, 0, Nat.zero_le _, rfl, rfl, rfl⟩
    case round =>
      obtain ⟨k, q, hk, rfl, rfl, hq⟩ := hrel
      have HQ := Lib.hid hq; clear hq
      by_cases hlt : k < l.length
      · obtain ⟨b, off, rfl, hck⟩ := ha.int k hlt
        obtain ⟨b', off', rfl, hck'⟩ := hb.int k (by omega)
        have hlt' : k < m.length := by omega
        have HS := Lib.hid (eqI_step hlt hlt' HQ.out)
        have HN := Lib.hid (@eqI_no l m k)
        have HL := Lib.hid hlen
        clear ha hb hlen
        generalize l.getD k 0 = s at *
        generalize m.getD k 0 = t at *
        by_cases hst : s = t
        · have hbe : (s == t) = true := beq_iff_eq.2 hst
          have hbn : (s != t) = false := by rw [bne_eq_false_iff_eq]; exact hst
          have HST := Lib.hid hst; clear hst
          go_wp2
          go_quiet (fail)
          go_wp2
          go_roundw
          case rel => exact ⟨k + 1, q + nq, by omega, by go_num, by simp, HS.out HST.out⟩
          case measure => simp [intOf]; omega
        · have hbe : (s == t) = false := beq_eq_false_iff_ne.2 hst
          have hbn : (s != t) = true := by rw [bne_iff_ne]; exact hst
          have HST := Lib.hid hst; clear hst
          go_wp2
          go_quiet (fail)
          go_wp2
          go_ret
          exact ⟨ret_bool (HN.out HST.out).symm, q + nq, by simp⟩
      · go_wp2
        go_ret
        exact ⟨ret_bool (eqI_all hlen hlt HQ.out).symm, _, rfl⟩
  · have hne : ((l.length : Int) != (m.length : Int)) = true := by simp; omega
    have hf := eqI_len hlen
    have HF := Lib.hid hf; clear hf hlen
    go_wp2
    go_ret
    exact ⟨ret_bool HF.out.symm, 0, rfl⟩

/-- the marks that the laws write into numbers: from number k on, n of them -/
def marksI (k n : Nat) : List Int := (List.range n).map fun i => ((k + i : Nat) : Int)
theorem marksI_len (k n : Nat) : (marksI k n).length = n := by simp [marksI]
theorem marksI_succ (k n : Nat) : marksI k (n + 1) = marksI k n ++ [((k + n : Nat) : Int)] := by
  simp [marksI, List.range_succ]
theorem marksI_getD (k n j : Nat) (h : j < n) : (marksI k n).getD j 0 = ((k + j : Nat) : Int) := by
  simp [marksI, h]

set_option maxHeartbeats 400000 in
theorem markIntS_any (ao : Option Addr) (cap k base : Nat) (l : List Int) (w : World) (hl : l.length ≤ 1048576) (hk1 : k ≤ 16777216)
    (hown : w.ownsRow base 3 1 (.slice ao l.length cap) l.length (l.map (Value.int .i64))) :
    Calls Try.prog 12 #[.slice ao l.length cap, .int .i64 k] w
      fun e w' => e = .returned (.int .i64 ((k + l.length : Nat) : Int)) ∧ w'.ownsRow base 3 1 (.slice ao l.length cap) l.length ((marksI k l.length).map (Value.int .i64)) ∧ w.grownBy w' (Value.ownBlock (.slice ao l.length cap)) := by
  go_enter Try.func12, Try.ntmps12
  go_wp2
  go_loopw [1, 5] (fun t i wr => ∃ (j : Nat), j ≤ l.length ∧ i = .int .i64 j ∧ t = .int .i64 ((k + j : Nat) : Int) ∧ wr.ownsRow base 3 1 (.slice ao l.length cap) l.length ((marksI k j).map (Value.int .i64) ++ (l.drop j).map (Value.int .i64)) ∧ w.grownBy wr (Value.ownBlock (.slice ao l.length cap))) (fun _ i _ => l.length - (intOf i).toNat)
  case atStart => exact ⟨0, Nat.zero_le _, rfl, rfl, by simpa [marksI] using hown, World.grownBy.refl _ _⟩
  case round =>
    clear hown
    obtain ⟨j, hj, rfl, rfl, hown, hg⟩ := hrel
    by_cases hlt : j < l.length
    · obtain ⟨g, cap', hv, hbg, hgs⟩ := ownsRow_some hown (by omega)
      simp only [Value.slice.injEq, true_and] at hv
      obtain ⟨rfl, rfl⟩ := hv
      have hcell := hown.cellAt j (by omega)
      rw [List.getElem?_append_right (by simp [marksI_len]), List.length_map, marksI_len, Nat.sub_self, drop_getD l j 0 hlt, List.map_cons, List.getElem?_cons_zero] at hcell
      have hfz := hown.frozenAt j
      have hst := hown.stored j (.int .i64 ((k + j : Nat) : Int))
      rw [drop_getD l j 0 hlt, List.map_cons, set_mid _ _ _ _ _ (by simp [marksI_len]), ← List.map_singleton, ← List.map_append, ← marksI_succ] at hst
      have hg2 := grownBy_trans hg hst.2
      have hst1 := hst.1
      rw [Int.natCast_add] at hg2 hst1
      clear hown hg hst
      generalize l.getD j 0 = old at *
      go_wp2
      go_roundw
      case rel => exact ⟨j + 1, by omega, by go_num, by go_num, hst1, hg2⟩
      case measure => simp [intOf]; omega
    · obtain rfl : j = l.length := by omega
      rw [List.drop_length, List.map_nil, List.append_nil] at hown
      go_wp2
      go_ret
      exact ⟨rfl, hown, hg⟩

set_option maxHeartbeats 400000 in
theorem heldIntS_any (ao : Option Addr) (cap k n : Nat) (w : World) (hl : n ≤ 1048576) (hk1 : k ≤ 16777216)
    (hc : CellsAt w ao ((marksI k n).map (Value.int .i64))) :
    Calls Try.prog 13 #[.slice ao n cap, .int .i64 k] w
      fun e w' => e = .returned (.int .i64 ((k + n : Nat) : Int)) ∧ Below w.heap.size w w' := by
  go_enter Try.func13, Try.ntmps13
  go_wp2
  go_loopw [1, 5] (fun t i wr => ∃ (j : Nat), j ≤ n ∧ i = .int .i64 j ∧ t = .int .i64 ((k + j : Nat) : Int) ∧ Below w.heap.size w wr) (fun _ i _ => n - (intOf i).toNat)
  case atStart => exact ⟨0, Nat.zero_le _, rfl, rfl, Below.refl _ _⟩
  case round =>
    obtain ⟨j, hj, rfl, rfl, hb⟩ := hrel
    by_cases hlt : j < n
    · obtain ⟨b, off, rfl, hck⟩ := (hc.below hb).int j (by rw [marksI_len]; exact hlt)
      rw [marksI_getD _ _ _ hlt, Int.natCast_add] at hck
      have hbn : (((k : Int) + (j : Int)) != ((k : Int) + (j : Int))) = false := by simp
      clear hc
      go_wp2
      go_roundw
      case rel => exact ⟨j + 1, by omega, by go_num, by go_num, hb⟩
      case measure => simp [intOf]; omega
    · obtain rfl : j = n := by omega
      go_wp2
      go_ret
      exact ⟨rfl, hb⟩

end Go.Proofs.Ytlgbefmgpmdolaa

/-
  Lists compared by the laws. (Walks.)
-/
namespace Go.Proofs.Ytlgbefmgpmdolaa
open Go.RowKit

end Go.Proofs.Ytlgbefmgpmdolaa
