
/-
  Merged texts: OrdV OrdA OrdB OrdD.
-/
import Derived.Test.YtcapagegeomebaaOrdST
import Derived.Test.YtcapagegeomebaaOrdPX
import Derived.Test.YtcapagegeomebaaPoint
import Derived.Test.YtcapagegeomebaaOrdYZ

/-
  The model's answers about two rooms: left, above, the kind. (Walks.)
-/
namespace Go.Proofs.Ytcapagegeomebaa
open Go.RowKit

theorem l5Plain_any (ao : Option Addr) (cap : Nat) (p : List ByteArray) (w : World) (hl : p.length ≤ 1048576) (hs : ∀ s ∈ p, s.size ≤ 1048576) (hc : CellsAt w ao (p.map Value.string)) :
    Calls Try.prog 42 #[.slice ao p.length cap] w fun e w' => e = .returned (.bool (plainB p)) ∧ Below w.heap.size w w' := by
  have HP := Lib.hid (fun w hc => specWallPlain_any ao cap p w hl hs hc)
  unfold plainB
  generalize (planB p && decide (meetN p 4 = 0)) = x at *
  go_enter Try.func42, Try.ntmps42
  go_wp2_with (go_at_call 61; refine (HP.out _ hc).mono ?_; rintro e w1 ⟨rfl, hb1⟩)
  go_ret
  exact ⟨rfl, hb1⟩
/-- a plain plan and two rooms -/
def twoRm (p : List ByteArray) (a b : Int) : Bool := plainB p && givenB p a && givenB p b
theorem twoRm_is (p : List ByteArray) (a b : Int) : twoRm p a b = (plainB p && oRm (gridR p) a && oRm (gridR p) b) := by
  unfold twoRm
  cases h : plainB p
  · rfl
  · rw [given_oRm (plainB_plan h), given_oRm (plainB_plan h)]

theorem l5Rooms_any (ao : Option Addr) (cap : Nat) (p : List ByteArray) (a b : Int) (w : World) (hl : p.length ≤ 1048576) (hs : ∀ s ∈ p, s.size ≤ 1048576) (hc : CellsAt w ao (p.map Value.string)) :
    Calls Try.prog 35 #[.slice ao p.length cap, .int .i64 a, .int .i64 b] w fun e w' => e = .returned (.bool (twoRm p a b)) ∧ Below w.heap.size w w' := by
  have HP := Lib.hid (fun w hc => l5Plain_any ao cap p w hl hs hc)
  have HA := Lib.hid (fun w hc => l1Given_any ao cap p a w hl hs hc)
  have HB := Lib.hid (fun w hc => l1Given_any ao cap p b w hl hs hc)
  unfold twoRm
  generalize plainB p = x at *
  generalize givenB p a = y at *
  generalize givenB p b = z at *
  cases x
  · go_enter Try.func35, Try.ntmps35
    go_wp2_with (go_at_call 42; refine (HP.out _ hc).mono ?_; rintro e w1 ⟨rfl, hb1⟩; have hc1 := hc.below hb1)
    go_ret
    exact ⟨rfl, hb1⟩
  · cases y
    · go_enter Try.func35, Try.ntmps35
      go_wp2_with (first
        | (go_at_call 42; refine (HP.out _ hc).mono ?_; rintro e w1 ⟨rfl, hb1⟩; have hc1 := hc.below hb1)
        | (go_at_call 54; refine (HA.out _ hc1).mono ?_; rintro e w2 ⟨rfl, hb2⟩))
      go_ret
      exact ⟨rfl, below_step hb1 hb1.size hb2⟩
    · go_enter Try.func35, Try.ntmps35
      go_wp2_with (first
        | (go_at_call 42; refine (HP.out _ hc).mono ?_; rintro e w1 ⟨rfl, hb1⟩; have hc1 := hc.below hb1)
        | (go_at_call 54; refine (HA.out _ hc1).mono ?_; rintro e w2 ⟨rfl, hb2⟩; have hc2 := hc1.below hb2; clear HA)
        | (go_at_call 54; refine (HB.out _ hc2).mono ?_; rintro e w3 ⟨rfl, hb3⟩))
      go_ret
      exact ⟨rfl, below_step (below_step hb1 hb1.size hb2) (Nat.le_trans hb1.size hb2.size) hb3⟩

theorem block_in {w : World} {ao : Option Addr} {p : List ByteArray} (hp : planB p = true) (hc : CellsAt w ao (p.map Value.string)) : ∀ a, ao = some a → a.block < w.heap.size := fun a ha => by
  have h1 := (planP_of hp).grid.h1
  obtain ⟨b, off, he, hcell⟩ := hc 0 (.string (p.getD 0 ByteArray.empty)) (by rw [List.getElem?_map, List.getElem?_eq_getElem (by omega)]; simp [show 0 < p.length by omega])
  rw [ha] at he
  cases he
  exact World.block_lt_of_cell? w _ hcell
/-- the sets of a plain plan -/
theorem l5AllP_any (ao : Option Addr) (cap : Nat) (p : List ByteArray) (kind : Nat) (w : World) (hl : p.length ≤ 1048576) (hs : ∀ s ∈ p, s.size ≤ 1048576) (hp : planB p = true) (hc : CellsAt w ao (p.map Value.string)) :
    Calls Try.prog 36 #[.slice ao p.length cap, .int .i64 kind] w
      fun e w' => (∃ S, IsSets S (gridR p) (pL p kind) ∧ SetsRet w.heap.size S e w') ∧ Below w.heap.size w w' := l5All_any ao cap p kind w hl hs hp hc (block_in hp hc)

set_option maxRecDepth 100000 in
set_option maxHeartbeats 1600000 in
theorem specOrderLeft_any (ao : Option Addr) (cap : Nat) (p : List ByteArray) (a b : Int) (w : World) (hl : p.length ≤ 1048576) (hs : ∀ s ∈ p, s.size ≤ 1048576) (hc : CellsAt w ao (p.map Value.string)) :
    Calls Try.prog 12 #[.slice ao p.length cap, .int .i64 a, .int .i64 b] w fun e w' => e = .returned (.bool (ledP p 0 a b)) ∧ Below w.heap.size w w' := by
  have HR := Lib.hid (fun w hc => l5Rooms_any ao cap p a b w hl hs hc)
  cases ht : twoRm p a b
  · rw [ledP_out (by rw [← twoRm_is]; exact ht)]
    rw [ht] at HR
    go_enter Try.func12, Try.ntmps12
    go_wp2_with (go_at_call 35; refine (HR.out _ hc).mono ?_; rintro e w1 ⟨rfl, hb1⟩)
    go_ret
    exact ⟨rfl, hb1⟩
  · rw [ht] at HR
    rw [twoRm_is, Bool.and_eq_true, Bool.and_eq_true] at ht
    obtain ⟨⟨hpl, ha⟩, hb⟩ := ht
    obtain ⟨ha0, ha1⟩ := oRm_iff.1 ha
    obtain ⟨hb0, hb1'⟩ := oRm_iff.1 hb
    obtain ⟨m, rfl⟩ : ∃ m : Nat, a = (m : Int) := ⟨a.toNat, by omega⟩
    obtain ⟨n, rfl⟩ : ∃ n : Nat, b = (n : Int) := ⟨b.toNat, by omega⟩
    rw [ledP_nat hpl 0 (by omega) (by omega)]
    have HA := Lib.hid (fun w hc => l5AllP_any ao cap p 0 w hl hs (plainB_plan hpl) hc)
    have hr9 := (planP_of (plainB_plan hpl)).few
    change Hid (∀ w _, Calls _ _ #[.slice ao p.length cap, .int .i64 0] w _) at HA
    generalize pL p 0 = f at *
    generalize gridR p = r at *
    clear ha hb hpl
    go_enter Try.func12, Try.ntmps12
    go_wp2_with (first
      | (go_at_call 35; refine (HR.out _ hc).mono ?_; rintro e w1 ⟨rfl, hb1⟩; have hc1 := hc.below hb1)
      | (go_at_call 36; refine (HA.out _ hc1).mono ?_; rintro e w2 ⟨⟨S, his, gb, hgb, rfl, hB⟩, hb2⟩; have k1 : w2.cell? ⟨gb, m, none⟩ = some (.int .i64 ((S.getD m 0 : Nat) : Int)) := (hB.cell m).trans (setsV_at (by rw [his.len]; omega)); have hbit := bit_i64 (S.getD m 0) n (his.low m (by omega)); rw [his.bit m n (by omega)] at hbit; have hSl := his.len; have hms : (m : Int) < (S.length : Int) := (by omega); generalize S.getD m 0 = z at *; clear his))
    go_ret
    exact ⟨rfl, below_step hb1 hb1.size hb2⟩
set_option maxRecDepth 100000 in
set_option maxHeartbeats 1600000 in
theorem specOrderAbove_any (ao : Option Addr) (cap : Nat) (p : List ByteArray) (a b : Int) (w : World) (hl : p.length ≤ 1048576) (hs : ∀ s ∈ p, s.size ≤ 1048576) (hc : CellsAt w ao (p.map Value.string)) :
    Calls Try.prog 16 #[.slice ao p.length cap, .int .i64 a, .int .i64 b] w fun e w' => e = .returned (.bool (ledP p 1 a b)) ∧ Below w.heap.size w w' := by
  have HR := Lib.hid (fun w hc => l5Rooms_any ao cap p a b w hl hs hc)
  cases ht : twoRm p a b
  · rw [ledP_out (by rw [← twoRm_is]; exact ht)]
    rw [ht] at HR
    go_enter Try.func16, Try.ntmps16
    go_wp2_with (go_at_call 35; refine (HR.out _ hc).mono ?_; rintro e w1 ⟨rfl, hb1⟩)
    go_ret
    exact ⟨rfl, hb1⟩
  · rw [ht] at HR
    rw [twoRm_is, Bool.and_eq_true, Bool.and_eq_true] at ht
    obtain ⟨⟨hpl, ha⟩, hb⟩ := ht
    obtain ⟨ha0, ha1⟩ := oRm_iff.1 ha
    obtain ⟨hb0, hb1'⟩ := oRm_iff.1 hb
    obtain ⟨m, rfl⟩ : ∃ m : Nat, a = (m : Int) := ⟨a.toNat, by omega⟩
    obtain ⟨n, rfl⟩ : ∃ n : Nat, b = (n : Int) := ⟨b.toNat, by omega⟩
    rw [ledP_nat hpl 1 (by omega) (by omega)]
    have HA := Lib.hid (fun w hc => l5AllP_any ao cap p 1 w hl hs (plainB_plan hpl) hc)
    have hr9 := (planP_of (plainB_plan hpl)).few
    change Hid (∀ w _, Calls _ _ #[.slice ao p.length cap, .int .i64 1] w _) at HA
    generalize pL p 1 = f at *
    generalize gridR p = r at *
    clear ha hb hpl
    go_enter Try.func16, Try.ntmps16
    go_wp2_with (first
      | (go_at_call 35; refine (HR.out _ hc).mono ?_; rintro e w1 ⟨rfl, hb1⟩; have hc1 := hc.below hb1)
      | (go_at_call 36; refine (HA.out _ hc1).mono ?_; rintro e w2 ⟨⟨S, his, gb, hgb, rfl, hB⟩, hb2⟩; have k1 : w2.cell? ⟨gb, m, none⟩ = some (.int .i64 ((S.getD m 0 : Nat) : Int)) := (hB.cell m).trans (setsV_at (by rw [his.len]; omega)); have hbit := bit_i64 (S.getD m 0) n (his.low m (by omega)); rw [his.bit m n (by omega)] at hbit; have hSl := his.len; have hms : (m : Int) < (S.length : Int) := (by omega); generalize S.getD m 0 = z at *; clear his))
    go_ret
    exact ⟨rfl, below_step hb1 hb1.size hb2⟩

theorem kind_out {p : List ByteArray} {a b : Int} (h : ∀ way, way < 2 → ledP p way a b = false ∧ ledP p way b a = false) : kindV p a b = ⟨#[]⟩ ∧ kindB p a b = false := by
  unfold kindV kindB
  rw [(h 0 (by omega)).1, (h 0 (by omega)).2, (h 1 (by omega)).1, (h 1 (by omega)).2]
  exact ⟨rfl, rfl⟩

set_option maxRecDepth 100000 in
set_option maxHeartbeats 4000000 in
theorem specOrderKind_any (ao : Option Addr) (cap : Nat) (p : List ByteArray) (a b : Int) (w : World) (hl : p.length ≤ 1048576) (hs : ∀ s ∈ p, s.size ≤ 1048576) (hc : CellsAt w ao (p.map Value.string)) :
    Calls Try.prog 19 #[.slice ao p.length cap, .int .i64 a, .int .i64 b] w fun e w' => e = .returned (.tuple #[.string (kindV p a b), .bool (kindB p a b)]) ∧ Below w.heap.size w w' := by
  have HR := Lib.hid (fun w hc => l5Rooms_any ao cap p a b w hl hs hc)
  cases ht : twoRm p a b
  · have hk := kind_out (p := p) (a := a) (b := b) (fun way _ => ⟨ledP_out (by rw [← twoRm_is]; exact ht) way, ledP_out (by rw [twoRm_is] at ht; rw [← ht, Bool.and_assoc, Bool.and_assoc, Bool.and_comm (oRm _ b)]) way⟩)
    rw [hk.1, hk.2]
    rw [ht] at HR
    go_enter Try.func19, Try.ntmps19
    go_wp2_with (go_at_call 35; refine (HR.out _ hc).mono ?_; rintro e w1 ⟨rfl, hb1⟩)
    go_ret2
    exact ⟨rfl, hb1⟩
  · rw [ht] at HR
    rw [twoRm_is, Bool.and_eq_true, Bool.and_eq_true] at ht
    obtain ⟨⟨hpl, ha⟩, hb⟩ := ht
    obtain ⟨ha0, ha1⟩ := oRm_iff.1 ha
    obtain ⟨hb0, hb1'⟩ := oRm_iff.1 hb
    obtain ⟨m, rfl⟩ : ∃ m : Nat, a = (m : Int) := ⟨a.toNat, by omega⟩
    obtain ⟨n, rfl⟩ : ∃ n : Nat, b = (n : Int) := ⟨b.toNat, by omega⟩
    have hmr : m < gridR p := by omega
    have hnr : n < gridR p := by omega
    by_cases hmn : m = n
    · subst hmn
      have hk := kind_out (p := p) (a := (m : Int)) (b := (m : Int)) (fun way hway => by
        have : ledP p way (m : Int) (m : Int) = false := by
          rw [ledP_nat hpl way hmr hmr]
          exact pL_self hpl hmr way hway
        exact ⟨this, this⟩)
      rw [hk.1, hk.2]
      have hd : ((m : Int) == (m : Int)) = true := beq_self_eq_true _
      go_enter Try.func19, Try.ntmps19
      go_wp2_with (go_at_call 35; refine (HR.out _ hc).mono ?_; rintro e w1 ⟨rfl, hb1⟩)
      go_ret2
      exact ⟨rfl, hb1⟩
    · have hd : ((m : Int) == (n : Int)) = false := by rw [beq_eq_false_iff_ne]; omega
      have hso := pL_some (plainB_plan hpl) hmr hnr hmn
      unfold kindV kindB
      rw [ledP_nat hpl 0 hmr hnr, ledP_nat hpl 0 hnr hmr, ledP_nat hpl 1 hmr hnr, ledP_nat hpl 1 hnr hmr]
      have HA := Lib.hid (fun w hc => l5AllP_any ao cap p 0 w hl hs (plainB_plan hpl) hc)
      have HB := Lib.hid (fun w hc => l5AllP_any ao cap p 1 w hl hs (plainB_plan hpl) hc)
      have hr9 := (planP_of (plainB_plan hpl)).few
      change Hid (∀ w _, Calls _ _ #[.slice ao p.length cap, .int .i64 0] w _) at HA
      change Hid (∀ w _, Calls _ _ #[.slice ao p.length cap, .int .i64 1] w _) at HB
      generalize pL p 0 = f at *
      generalize pL p 1 = g at *
      generalize gridR p = r at *
      clear ha hb hpl
      have HBIT := Lib.hid (fun (S : List Nat) (f : Nat → Nat → Bool) (h : IsSets S r f) (x y : Nat) (hx : x < r) => show (bits .and .i64 (((S.getD x 0 : Nat) : Int) / 2 ^ y) 1 == 1) = f x y by
        rw [← h.bit x y hx]; exact bit_i64 _ y (h.low x hx))
      have HCEL := Lib.hid (fun (S : List Nat) (f : Nat → Nat → Bool) (h : IsSets S r f) (x : Nat) (hx : x < r) => show (setsV S)[x]? = some (.int .i64 ((S.getD x 0 : Nat) : Int)) from setsV_at (by rw [h.len]; exact hx))
      cases h1 : f m n
      · cases h2 : f n m
        · cases h3 : g m n
          · have h4 : g n m = true := by
              rw [h1, h2, h3] at hso
              simpa using hso
            rw [h4]
            go_enter Try.func19, Try.ntmps19
            go_wp2_with (first
              | (go_at_call 35; refine (HR.out _ hc).mono ?_; rintro e w1 ⟨rfl, hb1⟩; have hc1 := hc.below hb1)
              | (go_at_call 36; refine (HA.out _ hc1).mono ?_; rintro e w2 ⟨⟨S, his, gb, hgb, rfl, hB⟩, hb2⟩; have hc2 := hc1.below hb2; clear HA)
              | (go_at_call 36; refine (HB.out _ hc2).mono ?_; rintro e w3 ⟨⟨S2, his2, gb2, hgb2, rfl, hB2⟩, hb3⟩; have k1 := ((hB.below hb3).cell m).trans (HCEL.out S f his m hmr); have k2 := ((hB.below hb3).cell n).trans (HCEL.out S f his n hnr); have k3 := (hB2.cell m).trans (HCEL.out S2 g his2 m hmr); have t1 := HBIT.out S f his m n hmr; have t2 := HBIT.out S f his n m hnr; have t3 := HBIT.out S2 g his2 m n hmr; have l1 := his.len; have l2 := his2.len; have s1 : (m : Int) < (S.length : Int) := (by omega); have s2 : (n : Int) < (S.length : Int) := (by omega); have s3 : (m : Int) < (S2.length : Int) := (by omega); generalize S.getD m 0 = z1 at *; generalize S.getD n 0 = z2 at *; generalize S2.getD m 0 = z3 at *; rw [h1] at t1; rw [h2] at t2; rw [h3] at t3; clear his his2 hB hB2 HBIT HCEL))
            go_ret2
            exact ⟨rfl, below_step (below_step hb1 hb1.size hb2) (Nat.le_trans hb1.size hb2.size) hb3⟩
          · clear hso
            go_enter Try.func19, Try.ntmps19
            go_wp2_with (first
              | (go_at_call 35; refine (HR.out _ hc).mono ?_; rintro e w1 ⟨rfl, hb1⟩; have hc1 := hc.below hb1)
              | (go_at_call 36; refine (HA.out _ hc1).mono ?_; rintro e w2 ⟨⟨S, his, gb, hgb, rfl, hB⟩, hb2⟩; have hc2 := hc1.below hb2; clear HA)
              | (go_at_call 36; refine (HB.out _ hc2).mono ?_; rintro e w3 ⟨⟨S2, his2, gb2, hgb2, rfl, hB2⟩, hb3⟩; have k1 := ((hB.below hb3).cell m).trans (HCEL.out S f his m hmr); have k2 := ((hB.below hb3).cell n).trans (HCEL.out S f his n hnr); have k3 := (hB2.cell m).trans (HCEL.out S2 g his2 m hmr); have t1 := HBIT.out S f his m n hmr; have t2 := HBIT.out S f his n m hnr; have t3 := HBIT.out S2 g his2 m n hmr; have l1 := his.len; have l2 := his2.len; have s1 : (m : Int) < (S.length : Int) := (by omega); have s2 : (n : Int) < (S.length : Int) := (by omega); have s3 : (m : Int) < (S2.length : Int) := (by omega); generalize S.getD m 0 = z1 at *; generalize S.getD n 0 = z2 at *; generalize S2.getD m 0 = z3 at *; rw [h1] at t1; rw [h2] at t2; rw [h3] at t3; clear his his2 hB hB2 HBIT HCEL))
            go_ret2
            exact ⟨rfl, below_step (below_step hb1 hb1.size hb2) (Nat.le_trans hb1.size hb2.size) hb3⟩
        · clear hso
          go_enter Try.func19, Try.ntmps19
          go_wp2_with (first
            | (go_at_call 35; refine (HR.out _ hc).mono ?_; rintro e w1 ⟨rfl, hb1⟩; have hc1 := hc.below hb1)
            | (go_at_call 36; refine (HA.out _ hc1).mono ?_; rintro e w2 ⟨⟨S, his, gb, hgb, rfl, hB⟩, hb2⟩; have hc2 := hc1.below hb2; clear HA)
            | (go_at_call 36; refine (HB.out _ hc2).mono ?_; rintro e w3 ⟨⟨S2, his2, gb2, hgb2, rfl, hB2⟩, hb3⟩; have k1 := ((hB.below hb3).cell m).trans (HCEL.out S f his m hmr); have k2 := ((hB.below hb3).cell n).trans (HCEL.out S f his n hnr); have k3 := (hB2.cell m).trans (HCEL.out S2 g his2 m hmr); have t1 := HBIT.out S f his m n hmr; have t2 := HBIT.out S f his n m hnr; have t3 := HBIT.out S2 g his2 m n hmr; have l1 := his.len; have l2 := his2.len; have s1 : (m : Int) < (S.length : Int) := (by omega); have s2 : (n : Int) < (S.length : Int) := (by omega); have s3 : (m : Int) < (S2.length : Int) := (by omega); generalize S.getD m 0 = z1 at *; generalize S.getD n 0 = z2 at *; generalize S2.getD m 0 = z3 at *; rw [h1] at t1; rw [h2] at t2; clear his his2 hB hB2 HBIT HCEL))
          go_ret2
          exact ⟨rfl, below_step (below_step hb1 hb1.size hb2) (Nat.le_trans hb1.size hb2.size) hb3⟩
      · clear hso
        go_enter Try.func19, Try.ntmps19
        go_wp2_with (first
          | (go_at_call 35; refine (HR.out _ hc).mono ?_; rintro e w1 ⟨rfl, hb1⟩; have hc1 := hc.below hb1)
          | (go_at_call 36; refine (HA.out _ hc1).mono ?_; rintro e w2 ⟨⟨S, his, gb, hgb, rfl, hB⟩, hb2⟩; have hc2 := hc1.below hb2; clear HA)
          | (go_at_call 36; refine (HB.out _ hc2).mono ?_; rintro e w3 ⟨⟨S2, his2, gb2, hgb2, rfl, hB2⟩, hb3⟩; have k1 := ((hB.below hb3).cell m).trans (HCEL.out S f his m hmr); have k2 := ((hB.below hb3).cell n).trans (HCEL.out S f his n hnr); have k3 := (hB2.cell m).trans (HCEL.out S2 g his2 m hmr); have t1 := HBIT.out S f his m n hmr; have t2 := HBIT.out S f his n m hnr; have t3 := HBIT.out S2 g his2 m n hmr; have l1 := his.len; have l2 := his2.len; have s1 : (m : Int) < (S.length : Int) := (by omega); have s2 : (n : Int) < (S.length : Int) := (by omega); have s3 : (m : Int) < (S2.length : Int) := (by omega); generalize S.getD m 0 = z1 at *; generalize S.getD n 0 = z2 at *; generalize S2.getD m 0 = z3 at *; rw [h1] at t1; clear his his2 hB hB2 HBIT HCEL))
        go_ret2
        exact ⟨rfl, below_step (below_step hb1 hb1.size hb2) (Nat.le_trans hb1.size hb2.size) hb3⟩
end Go.Proofs.Ytcapagegeomebaa

/-
  The model's lines of rooms. (Walks.)
-/
namespace Go.Proofs.Ytcapagegeomebaa
open Go.RowKit

theorem oR_yes {p : List ByteArray} (h : plainB p = true) : oR p = gridR p := by unfold oR; rw [if_pos h]
/-- where the model's line lies -/
def SoSt (w : World) (g5 g6 gp : Nat) (S T L : List Nat) (wr : World) : Prop := HeldB wr g5 3 (setsV S) ∧ HeldB wr g6 3 (setsV T) ∧ HeldB wr gp 3 (setsV L) ∧ Below w.heap.size w wr
theorem SoSt.put {w : World} {g5 g6 gp : Nat} {S T L M : List Nat} {wr : World} (h1 : g5 ≠ gp) (h2 : g6 ≠ gp) (h3 : w.heap.size ≤ gp) (h : SoSt w g5 g6 gp S T L wr) (x m : Nat) (hM : L.set x m = M) : SoSt w g5 g6 gp S T M (wr.setCell ⟨gp, x, none⟩ (.int .i64 (m : Nat))) := by
  subst hM
  exact ⟨h.1.other h1 _, h.2.1.other h2 _, (h.2.2.1.set x _).eq (setsV_put L x m), h.2.2.2.setCell (p := ⟨gp, x, none⟩) h3 _⟩

set_option maxRecDepth 100000 in
set_option maxHeartbeats 4000000 in
theorem l5SortedFirst_any (ao : Option Addr) (cap : Nat) (p : List ByteArray) (w : World) (hl : p.length ≤ 1048576) (hs : ∀ s ∈ p, s.size ≤ 1048576) (hpl : plainB p = true) (hc : CellsAt w ao (p.map Value.string)) :
    Calls Try.prog 43 #[.slice ao p.length cap, .bool false] w fun e w' => PlRet w.heap.size (firstL p) e w' ∧ Below w.heap.size w w' := by
  have HA := Lib.hid (fun w hc => l5AllP_any ao cap p 0 w hl hs (plainB_plan hpl) hc)
  have HB := Lib.hid (fun w hc => l5AllP_any ao cap p 1 w hl hs (plainB_plan hpl) hc)
  change Hid (∀ w _, Calls _ _ #[.slice ao p.length cap, .int .i64 0] w _) at HA
  change Hid (∀ w _, Calls _ _ #[.slice ao p.length cap, .int .i64 1] w _) at HB
  have hr9 := (planP_of (plainB_plan hpl)).few
  have HIR := Lib.hid (firstQ_irr p)
  rw [oR_yes hpl, oF_yes hpl] at HIR
  unfold firstL
  rw [oR_yes hpl, oF_yes hpl]
  clear hl hs hpl
  obtain ⟨q, hq⟩ : ∃ q, q = firstQ (pL p) := ⟨_, rfl⟩
  rw [← hq] at HIR
  rw [← hq]
  have HQ := Lib.hid (show ∀ b a, q b a = (pL p 0 b a || pL p 1 b a) from fun b a => by rw [hq]; rfl)
  clear hq
  generalize pL p 0 = f at *
  generalize pL p 1 = g at *
  generalize gridR p = r at *
  have HBIT := Lib.hid (fun (S : List Nat) (f : Nat → Nat → Bool) (h : IsSets S r f) (x y : Nat) (hx : x < r) => show (bits .and .i64 (((S.getD x 0 : Nat) : Int) / 2 ^ y) 1 == 1) = f x y by
    rw [← h.bit x y hx]; exact bit_i64 _ y (h.low x hx))
  have HCEL := Lib.hid (fun (S : List Nat) (f : Nat → Nat → Bool) (h : IsSets S r f) (x : Nat) (hx : x < r) => show (setsV S)[x]? = some (.int .i64 ((S.getD x 0 : Nat) : Int)) from setsV_at (by rw [h.len]; exact hx))
  have HLT := Lib.hid (fun b (hb : b < r) => placeN_lt hb (HIR.out b hb))
  have HLE := Lib.hid (fun k => lineN_len q r k)
  have HL0 := Lib.hid (show lineN q r 0 = List.replicate r 0 from rfl)
  have HLS := Lib.hid (fun k => show (lineN q r k).set (placeN q r k) k = lineN q r (k + 1) from rfl)
  have HPS := Lib.hid (fun k b => placeN_succ q k b)
  have HPE := Lib.hid (fun k b => placeN_le q k b)
  have HP0 := Lib.hid (fun b => show placeN q 0 b = 0 from rfl)
  clear HIR
  obtain ⟨im, hmi, hmz, hm1, hm2⟩ := info_parts Try.infoNum
  go_enter Try.func43, Try.ntmps43
  go_wp2_with (first
    | (go_at_call 36; refine (HA.out _ hc).mono ?_; rintro e w1 ⟨⟨S, his, g5, hg5, rfl, hB⟩, hb1⟩; rw [his.len]; have hc1 := hc.below hb1; clear HA)
    | (go_at_call 36; refine (HB.out _ hc1).mono ?_; rintro e w2 ⟨⟨T, hit, g6, hg6, rfl, hB2⟩, hb2⟩; rw [hit.len]; clear HB)
    | (at_make; refine wpList_make_full _ rfl _ _ 35 rfl w.heap.size 3 im (.int .i64 0) 1 Try.underlying35 hmi hmz hm1 .i64 .i64 _ _ r rfl rfl rfl rfl ?d2 ?d3 (by have := hb1.size; have := hb2.size; omega) ?_; rotate_left 2; intro w3 ho3 hg3; have hb3 : Below w2.heap.size w2 w3 := below_of_grownBy hg3 (Nat.le_refl _) (fun k hk => by cases hk); have hz := held_zeros ho3))
  case d2 => rw [hm2]; omega
  case d3 => unfold maxLen; omega
  have l5 := (hB.below hb2).lt
  have l6 := hB2.lt
  have hs1 := hb1.size
  have hs2 := hb2.size
  obtain ⟨gp, hgp⟩ : ∃ gp, gp = w2.heap.size := ⟨_, rfl⟩
  rw [← hgp] at hz ⊢
  have n5 : g5 ≠ gp := by omega
  have n6 : g6 ≠ gp := by omega
  have n0 : w.heap.size ≤ gp := by omega
  have st3 : SoSt w g5 g6 gp S T (lineN q r 0) w3 := ⟨(hB.below hb2).below hb3, hB2.below hb3, by rw [HL0.out]; exact hz, below_step (below_step hb1 hs1 hb2) (by omega) hb3⟩
  clear hz hB hB2 hb1 hb2 hb3 ho3 hg3 hc1 hc l5 l6 hs1 hs2 hgp hg5 hg6
  have HN := Lib.hid (show ∀ b, b < r → (b : Int) < (r : Int) from fun b hb => by omega)
  have HIS := Lib.hid his; have HIT := Lib.hid hit
  clear his hit
  go_loopw [9] (fun v wr => ∃ k : Nat, k ≤ r ∧ v = .int .i64 k ∧ SoSt w g5 g6 gp S T (lineN q r k) wr) (fun v _ => r - (intOf v).toNat)
  case atStart => exact ⟨0, Nat.zero_le _, rfl, st3⟩
  case round =>
    clear st3
    obtain ⟨k, hk, rfl, hst⟩ := hrel
    by_cases hkr : k < r
    · go_wp2
      go_loopw [10, 11] (fun v10 v11 wr => ∃ b : Nat, b ≤ r ∧ v11 = .int .i64 b ∧ v10 = .int .i64 (placeN q b k : Nat) ∧ SoSt w g5 g6 gp S T (lineN q r k) wr) (fun _ v _ => r - (intOf v).toNat)
      case atStart => exact ⟨0, Nat.zero_le _, rfl, by rw [HP0.out]; rfl, hst⟩
      case round =>
        clear hst
        obtain ⟨b, hb, rfl, rfl, hst⟩ := hrel
        by_cases hbr : b < r
        · have k1 := (hst.1.cell b).trans (HCEL.out S f HIS.out b hbr)
          have k2 := (hst.2.1.cell b).trans (HCEL.out T g HIT.out b hbr)
          have k3 := (hst.2.1.cell k).trans (HCEL.out T g HIT.out k hkr)
          have t1 := HBIT.out S f HIS.out b k hbr
          have t2 := HBIT.out T g HIT.out b k hbr
          have t3 := HBIT.out T g HIT.out k b hkr
          have hbi : (b : Int) < (r : Int) := by omega
          have hki : (k : Int) < (r : Int) := by omega
          have hpe := HPE.out b k
          have HP2 := Lib.hid (HPS.out b k)
          rw [HQ.out] at HP2
          generalize placeN q b k = y at *
          generalize S.getD b 0 = z1 at *
          generalize T.getD b 0 = z2 at *
          generalize T.getD k 0 = z3 at *
          cases h1 : f b k
          · rw [h1] at t1 HP2
            cases h2 : g b k
            · rw [h2] at t2 HP2
              have hy : placeN q (b + 1) k = y := by rw [HP2.out]; rfl
              clear HP2
              go_wp2
              go_roundw
              case rel => exact ⟨b + 1, by omega, by go_num, by rw [hy], hst⟩
              case measure => simp [intOf]; omega
            · rw [h2] at t2 HP2
              have hy : placeN q (b + 1) k = y + 1 := by rw [HP2.out]; rfl
              clear HP2
              go_wp2
              go_roundw
              case rel => exact ⟨b + 1, by omega, by go_num, by rw [hy]; go_num, hst⟩
              case measure => simp [intOf]; omega
          · rw [h1] at t1 HP2
            have hy : placeN q (b + 1) k = y + 1 := by rw [HP2.out]; rfl
            clear HP2
            go_wp2
            go_roundw
            case rel => exact ⟨b + 1, by omega, by go_num, by rw [hy]; go_num, hst⟩
            case measure => simp [intOf]; omega
        · obtain rfl : b = r := by omega
          have hlt := HLT.out k hkr
          have hll := HLE.out k
          have hst2 := hst.put n5 n6 n0 (placeN q b k) k (HLS.out k)
          have f1 := hst.2.2.1.frozen (placeN q b k)
          have k2 : wr.cell? ⟨gp, placeN q b k, none⟩ = some (.int .i64 ((lineN q b k).getD (placeN q b k) 0 : Nat)) := (hst.2.2.1.cell _).trans (setsV_at (by rw [hll]; exact hlt))
          have hlti : ((placeN q b k : Nat) : Int) < (b : Int) := by omega
          generalize (lineN q b k).getD (placeN q b k) 0 = z at *
          generalize placeN q b k = y at *
          clear hst
          go_wp2
          go_roundw
          case rel => exact ⟨k + 1, by omega, by go_num, hst2⟩
          case measure => simp [intOf]; omega
    · obtain rfl : k = r := by omega
      have hlen := HLE.out k
      go_wp2
      go_ret
      exact ⟨⟨gp, n0, by rw [hlen]; rfl, hst.2.2.1⟩, hst.2.2.2⟩

set_option maxRecDepth 100000 in
set_option maxHeartbeats 4000000 in
theorem l5SortedSecond_any (ao : Option Addr) (cap : Nat) (p : List ByteArray) (w : World) (hl : p.length ≤ 1048576) (hs : ∀ s ∈ p, s.size ≤ 1048576) (hpl : plainB p = true) (hc : CellsAt w ao (p.map Value.string)) :
    Calls Try.prog 43 #[.slice ao p.length cap, .bool true] w fun e w' => PlRet w.heap.size (secondL p) e w' ∧ Below w.heap.size w w' := by
  have HA := Lib.hid (fun w hc => l5AllP_any ao cap p 0 w hl hs (plainB_plan hpl) hc)
  have HB := Lib.hid (fun w hc => l5AllP_any ao cap p 1 w hl hs (plainB_plan hpl) hc)
  change Hid (∀ w _, Calls _ _ #[.slice ao p.length cap, .int .i64 0] w _) at HA
  change Hid (∀ w _, Calls _ _ #[.slice ao p.length cap, .int .i64 1] w _) at HB
  have hr9 := (planP_of (plainB_plan hpl)).few
  have HIR := Lib.hid (secondQ_irr p)
  rw [oR_yes hpl, oF_yes hpl] at HIR
  unfold secondL
  rw [oR_yes hpl, oF_yes hpl]
  clear hl hs hpl
  obtain ⟨q, hq⟩ : ∃ q, q = secondQ (pL p) := ⟨_, rfl⟩
  rw [← hq] at HIR
  rw [← hq]
  have HQ := Lib.hid (show ∀ b a, q b a = (pL p 0 b a || pL p 1 a b) from fun b a => by rw [hq]; rfl)
  clear hq
  generalize pL p 0 = f at *
  generalize pL p 1 = g at *
  generalize gridR p = r at *
  have HBIT := Lib.hid (fun (S : List Nat) (f : Nat → Nat → Bool) (h : IsSets S r f) (x y : Nat) (hx : x < r) => show (bits .and .i64 (((S.getD x 0 : Nat) : Int) / 2 ^ y) 1 == 1) = f x y by
    rw [← h.bit x y hx]; exact bit_i64 _ y (h.low x hx))
  have HCEL := Lib.hid (fun (S : List Nat) (f : Nat → Nat → Bool) (h : IsSets S r f) (x : Nat) (hx : x < r) => show (setsV S)[x]? = some (.int .i64 ((S.getD x 0 : Nat) : Int)) from setsV_at (by rw [h.len]; exact hx))
  have HLT := Lib.hid (fun b (hb : b < r) => placeN_lt hb (HIR.out b hb))
  have HLE := Lib.hid (fun k => lineN_len q r k)
  have HL0 := Lib.hid (show lineN q r 0 = List.replicate r 0 from rfl)
  have HLS := Lib.hid (fun k => show (lineN q r k).set (placeN q r k) k = lineN q r (k + 1) from rfl)
  have HPS := Lib.hid (fun k b => placeN_succ q k b)
  have HPE := Lib.hid (fun k b => placeN_le q k b)
  have HP0 := Lib.hid (fun b => show placeN q 0 b = 0 from rfl)
  clear HIR
  obtain ⟨im, hmi, hmz, hm1, hm2⟩ := info_parts Try.infoNum
  go_enter Try.func43, Try.ntmps43
  go_wp2_with (first
    | (go_at_call 36; refine (HA.out _ hc).mono ?_; rintro e w1 ⟨⟨S, his, g5, hg5, rfl, hB⟩, hb1⟩; rw [his.len]; have hc1 := hc.below hb1; clear HA)
    | (go_at_call 36; refine (HB.out _ hc1).mono ?_; rintro e w2 ⟨⟨T, hit, g6, hg6, rfl, hB2⟩, hb2⟩; rw [hit.len]; clear HB)
    | (at_make; refine wpList_make_full _ rfl _ _ 35 rfl w.heap.size 3 im (.int .i64 0) 1 Try.underlying35 hmi hmz hm1 .i64 .i64 _ _ r rfl rfl rfl rfl ?d2 ?d3 (by have := hb1.size; have := hb2.size; omega) ?_; rotate_left 2; intro w3 ho3 hg3; have hb3 : Below w2.heap.size w2 w3 := below_of_grownBy hg3 (Nat.le_refl _) (fun k hk => by cases hk); have hz := held_zeros ho3))
  case d2 => rw [hm2]; omega
  case d3 => unfold maxLen; omega
  have l5 := (hB.below hb2).lt
  have l6 := hB2.lt
  have hs1 := hb1.size
  have hs2 := hb2.size
  obtain ⟨gp, hgp⟩ : ∃ gp, gp = w2.heap.size := ⟨_, rfl⟩
  rw [← hgp] at hz ⊢
  have n5 : g5 ≠ gp := by omega
  have n6 : g6 ≠ gp := by omega
  have n0 : w.heap.size ≤ gp := by omega
  have st3 : SoSt w g5 g6 gp S T (lineN q r 0) w3 := ⟨(hB.below hb2).below hb3, hB2.below hb3, by rw [HL0.out]; exact hz, below_step (below_step hb1 hs1 hb2) (by omega) hb3⟩
  clear hz hB hB2 hb1 hb2 hb3 ho3 hg3 hc1 hc l5 l6 hs1 hs2 hgp hg5 hg6
  have HN := Lib.hid (show ∀ b, b < r → (b : Int) < (r : Int) from fun b hb => by omega)
  have HIS := Lib.hid his; have HIT := Lib.hid hit
  clear his hit
  go_loopw [9] (fun v wr => ∃ k : Nat, k ≤ r ∧ v = .int .i64 k ∧ SoSt w g5 g6 gp S T (lineN q r k) wr) (fun v _ => r - (intOf v).toNat)
  case atStart => exact ⟨0, Nat.zero_le _, rfl, st3⟩
  case round =>
    clear st3
    obtain ⟨k, hk, rfl, hst⟩ := hrel
    by_cases hkr : k < r
    · go_wp2
      go_loopw [10, 11] (fun v10 v11 wr => ∃ b : Nat, b ≤ r ∧ v11 = .int .i64 b ∧ v10 = .int .i64 (placeN q b k : Nat) ∧ SoSt w g5 g6 gp S T (lineN q r k) wr) (fun _ v _ => r - (intOf v).toNat)
      case atStart => exact ⟨0, Nat.zero_le _, rfl, by rw [HP0.out]; rfl, hst⟩
      case round =>
        clear hst
        obtain ⟨b, hb, rfl, rfl, hst⟩ := hrel
        by_cases hbr : b < r
        · have k1 := (hst.1.cell b).trans (HCEL.out S f HIS.out b hbr)
          have k2 := (hst.2.1.cell b).trans (HCEL.out T g HIT.out b hbr)
          have k3 := (hst.2.1.cell k).trans (HCEL.out T g HIT.out k hkr)
          have t1 := HBIT.out S f HIS.out b k hbr
          have t2 := HBIT.out T g HIT.out b k hbr
          have t3 := HBIT.out T g HIT.out k b hkr
          have hbi : (b : Int) < (r : Int) := by omega
          have hki : (k : Int) < (r : Int) := by omega
          have hpe := HPE.out b k
          have HP2 := Lib.hid (HPS.out b k)
          rw [HQ.out] at HP2
          generalize placeN q b k = y at *
          generalize S.getD b 0 = z1 at *
          generalize T.getD b 0 = z2 at *
          generalize T.getD k 0 = z3 at *
          cases h1 : f b k
          · rw [h1] at t1 HP2
            cases h2 : g k b
            · rw [h2] at t3 HP2
              have hy : placeN q (b + 1) k = y := by rw [HP2.out]; rfl
              clear HP2
              go_wp2
              go_roundw
              case rel => exact ⟨b + 1, by omega, by go_num, by rw [hy], hst⟩
              case measure => simp [intOf]; omega
            · rw [h2] at t3 HP2
              have hy : placeN q (b + 1) k = y + 1 := by rw [HP2.out]; rfl
              clear HP2
              go_wp2
              go_roundw
              case rel => exact ⟨b + 1, by omega, by go_num, by rw [hy]; go_num, hst⟩
              case measure => simp [intOf]; omega
          · rw [h1] at t1 HP2
            have hy : placeN q (b + 1) k = y + 1 := by rw [HP2.out]; rfl
            clear HP2
            go_wp2
            go_roundw
            case rel => exact ⟨b + 1, by omega, by go_num, by rw [hy]; go_num, hst⟩
            case measure => simp [intOf]; omega
        · obtain rfl : b = r := by omega
          have hlt := HLT.out k hkr
          have hll := HLE.out k
          have hst2 := hst.put n5 n6 n0 (placeN q b k) k (HLS.out k)
          have f1 := hst.2.2.1.frozen (placeN q b k)
          have k2 : wr.cell? ⟨gp, placeN q b k, none⟩ = some (.int .i64 ((lineN q b k).getD (placeN q b k) 0 : Nat)) := (hst.2.2.1.cell _).trans (setsV_at (by rw [hll]; exact hlt))
          have hlti : ((placeN q b k : Nat) : Int) < (b : Int) := by omega
          generalize (lineN q b k).getD (placeN q b k) 0 = z at *
          generalize placeN q b k = y at *
          clear hst
          go_wp2
          go_roundw
          case rel => exact ⟨k + 1, by omega, by go_num, hst2⟩
          case measure => simp [intOf]; omega
    · obtain rfl : k = r := by omega
      have hlen := HLE.out k
      go_wp2
      go_ret
      exact ⟨⟨gp, n0, by rw [hlen]; rfl, hst.2.2.1⟩, hst.2.2.2⟩
end Go.Proofs.Ytcapagegeomebaa

/-
  The model's first and second orders. (Walks.)
-/
namespace Go.Proofs.Ytcapagegeomebaa
open Go.RowKit

theorem oR_no {p : List ByteArray} (h : plainB p = false) : oR p = 0 := by unfold oR; rw [h]; rfl
theorem firstL_no {p : List ByteArray} (h : plainB p = false) : firstL p = [] := List.eq_nil_of_length_eq_zero (by rw [firstL_len, oR_no h])
theorem secondL_no {p : List ByteArray} (h : plainB p = false) : secondL p = [] := List.eq_nil_of_length_eq_zero (by rw [secondL_len, oR_no h])
theorem nums_none (w : World) : (w.alloc (.cells #[] 3)).ownsRow w.heap.size 3 1 (.slice (some ⟨w.heap.size, 0, none⟩) 0 0) 0 (([] : List Int).map (Value.int .i64)) := World.ownsRow_made w #[] 0 (Nat.le_refl _) (Nat.zero_le _) rfl
theorem specOrderFirst_any (ao : Option Addr) (cap : Nat) (p : List ByteArray) (w : World) (hl : p.length ≤ 1048576) (hs : ∀ s ∈ p, s.size ≤ 1048576) (hc : CellsAt w ao (p.map Value.string)) :
    Calls Try.prog 23 #[.slice ao p.length cap] w fun e w' => NumsRet w.heap.size (intsL (firstL p)) (plainB p) e w' ∧ Below w.heap.size w w' := by
  have HP := Lib.hid (fun w hc => l5Plain_any ao cap p w hl hs hc)
  cases hpl : plainB p
  · rw [hpl] at HP
    rw [firstL_no hpl]
    go_enter Try.func23, Try.ntmps23
    go_wp2_with (go_at_call 42; refine (HP.out _ hc).mono ?_; rintro e w1 ⟨rfl, hb1⟩)
    refine bodyPost_ret (v := .tuple #[.slice (some ⟨w1.heap.size, 0, none⟩) 0 0, .bool false]) (by simp [results, Try.results23, go_sem]) rfl ⟨⟨_, _, rfl, ownsRow_base (nums_none w1) hb1.size⟩, below_step hb1 hb1.size (below_alloc _ _)⟩
  · have HS := Lib.hid (fun w hc => l5SortedFirst_any ao cap p w hl hs hpl hc)
    rw [hpl] at HP
    have HL9 := Lib.hid (show (firstL p).length ≤ 9 by rw [firstL_len]; exact oR_le p)
    generalize firstL p = S at *
    go_enter Try.func23, Try.ntmps23
    go_wp2_with (first
      | (go_at_call 42; refine (HP.out _ hc).mono ?_; rintro e w1 ⟨rfl, hb1⟩; have hc1 := hc.below hb1)
      | (go_at_call 43; refine (HS.out _ hc1).mono ?_; rintro e w2 ⟨⟨gp, hgp, rfl, hP⟩, hb2⟩))
    refine bodyPost_ret (v := .tuple #[.slice (some ⟨gp, 0, none⟩) S.length S.length, .bool true]) (by simp [results, Try.results23, go_sem]) rfl ⟨nums_of hP (by have := hb1.size; omega) HL9.out, below_step hb1 hb1.size hb2⟩

theorem specOrderSecond_any (ao : Option Addr) (cap : Nat) (p : List ByteArray) (w : World) (hl : p.length ≤ 1048576) (hs : ∀ s ∈ p, s.size ≤ 1048576) (hc : CellsAt w ao (p.map Value.string)) :
    Calls Try.prog 28 #[.slice ao p.length cap] w fun e w' => NumsRet w.heap.size (intsL (secondL p)) (plainB p) e w' ∧ Below w.heap.size w w' := by
  have HP := Lib.hid (fun w hc => l5Plain_any ao cap p w hl hs hc)
  cases hpl : plainB p
  · rw [hpl] at HP
    rw [secondL_no hpl]
    go_enter Try.func28, Try.ntmps28
    go_wp2_with (go_at_call 42; refine (HP.out _ hc).mono ?_; rintro e w1 ⟨rfl, hb1⟩)
    refine bodyPost_ret (v := .tuple #[.slice (some ⟨w1.heap.size, 0, none⟩) 0 0, .bool false]) (by simp [results, Try.results28, go_sem]) rfl ⟨⟨_, _, rfl, ownsRow_base (nums_none w1) hb1.size⟩, below_step hb1 hb1.size (below_alloc _ _)⟩
  · have HS := Lib.hid (fun w hc => l5SortedSecond_any ao cap p w hl hs hpl hc)
    rw [hpl] at HP
    have HL9 := Lib.hid (show (secondL p).length ≤ 9 by rw [secondL_len]; exact oR_le p)
    generalize secondL p = S at *
    go_enter Try.func28, Try.ntmps28
    go_wp2_with (first
      | (go_at_call 42; refine (HP.out _ hc).mono ?_; rintro e w1 ⟨rfl, hb1⟩; have hc1 := hc.below hb1)
      | (go_at_call 43; refine (HS.out _ hc1).mono ?_; rintro e w2 ⟨⟨gp, hgp, rfl, hP⟩, hb2⟩))
    refine bodyPost_ret (v := .tuple #[.slice (some ⟨gp, 0, none⟩) S.length S.length, .bool true]) (by simp [results, Try.results28, go_sem]) rfl ⟨nums_of hP (by have := hb1.size; omega) HL9.out, below_step hb1 hb1.size hb2⟩
end Go.Proofs.Ytcapagegeomebaa

/-
  The permutation of an order: the model's. (Plain mathematics, and walks.)
-/
namespace Go.Proofs.Ytcapagegeomebaa
open Go.RowKit

/-- both orders of a plain plan are lines -/
theorem first_lin {p : List ByteArray} (h : plainB p = true) : Lin (firstQ (pL p)) (gridR p) := by
  have or4 : ∀ a b : Nat, firstQ (pL p) a b = true ↔ pL p 0 a b = true ∨ pL p 1 a b = true := fun a b => by unfold firstQ; rw [Bool.or_eq_true]
  refine ⟨fun a ha => ?_, fun a b ha hb hne => ?_, fun a b c ha hb hc h1 h2 => ?_⟩
  · have := firstQ_irr p a (by rw [oR_yes h]; exact ha); rwa [oF_yes h] at this
  · rw [or4, or4]
    rcases pL_some (plainB_plan h) ha hb hne with e | e | e | e
    · exact .inl (.inl e)
    · exact .inr (.inl e)
    · exact .inl (.inr e)
    · exact .inr (.inr e)
  · rw [or4] at h1 h2
    rw [or4]
    by_cases hac : a = c
    · subst hac
      exfalso
      rcases h1 with h1 | h1 <;> rcases h2 with h2 | h2
      · rw [(pL_one h ha hb h1).1] at h2; cases h2
      · rw [(pL_one h ha hb h1).2.2] at h2; cases h2
      · rw [(pL_over h ha hb h1).2.2] at h2; cases h2
      · rw [(pL_over h ha hb h1).1] at h2; cases h2
    · rcases pL_some (plainB_plan h) ha hc hac with e | e | e | e
      · exact .inl e
      · exfalso
        -- c is left of a
        rcases h1 with h1 | h1
        · have hcb := pL_trans (by omega) e h1
          rcases h2 with h2 | h2
          · rw [(pL_one h hc hb hcb).1] at h2; cases h2
          · rw [(pL_one h hc hb hcb).2.2] at h2; cases h2
        · rcases h2 with h2 | h2
          · have hba := pL_trans (by omega) h2 e
            rw [(pL_one h hb ha hba).2.2] at h1; cases h1
          · have hca := pL_trans (by omega) h1 h2
            rw [(pL_over h ha hc hca).2.2] at e; cases e
      · exact .inr e
      · exfalso
        rcases h1 with h1 | h1
        · rcases h2 with h2 | h2
          · have hca := pL_trans (by omega) h1 h2
            rw [(pL_one h ha hc hca).2.2] at e; cases e
          · have hba := pL_trans (by omega) h2 e
            rw [(pL_over h hb ha hba).2.2] at h1; cases h1
        · have hcb := pL_trans (by omega) e h1
          rcases h2 with h2 | h2
          · rw [(pL_over h hc hb hcb).2.2] at h2; cases h2
          · rw [(pL_over h hc hb hcb).1] at h2; cases h2
theorem second_lin {p : List ByteArray} (h : plainB p = true) : Lin (secondQ (pL p)) (gridR p) := by
  have or4 : ∀ a b : Nat, secondQ (pL p) a b = true ↔ pL p 0 a b = true ∨ pL p 1 b a = true := fun a b => by unfold secondQ; rw [Bool.or_eq_true]
  refine ⟨fun a ha => ?_, fun a b ha hb hne => ?_, fun a b c ha hb hc h1 h2 => ?_⟩
  · have := secondQ_irr p a (by rw [oR_yes h]; exact ha); rwa [oF_yes h] at this
  · rw [or4, or4]
    rcases pL_some (plainB_plan h) ha hb hne with e | e | e | e
    · exact .inl (.inl e)
    · exact .inr (.inl e)
    · exact .inr (.inr e)
    · exact .inl (.inr e)
  · rw [or4] at h1 h2
    rw [or4]
    by_cases hac : a = c
    · subst hac
      exfalso
      rcases h1 with h1 | h1 <;> rcases h2 with h2 | h2
      · rw [(pL_one h ha hb h1).1] at h2; cases h2
      · rw [(pL_one h ha hb h1).2.1] at h2; cases h2
      · rw [(pL_over h hb ha h1).2.1] at h2; cases h2
      · rw [(pL_over h hb ha h1).1] at h2; cases h2
    · rcases pL_some (plainB_plan h) ha hc hac with e | e | e | e
      · exact .inl e
      · exfalso
        rcases h1 with h1 | h1
        · have hcb := pL_trans (by omega) e h1
          rcases h2 with h2 | h2
          · rw [(pL_one h hc hb hcb).1] at h2; cases h2
          · rw [(pL_one h hc hb hcb).2.1] at h2; cases h2
        · rcases h2 with h2 | h2
          · have hba := pL_trans (by omega) h2 e
            rw [(pL_one h hb ha hba).2.1] at h1; cases h1
          · have hca := pL_trans (by omega) h2 h1
            rw [(pL_over h hc ha hca).2.1] at e; cases e
      · exfalso
        -- a is above c
        rcases h1 with h1 | h1
        · rcases h2 with h2 | h2
          · have hca := pL_trans (by omega) h1 h2
            rw [(pL_one h ha hc hca).2.1] at e; cases e
          · have hab := pL_trans (by omega) e h2
            rw [(pL_one h ha hb h1).2.1] at hab; cases hab
        · have hbc := pL_trans (by omega) h1 e
          rcases h2 with h2 | h2
          · rw [(pL_one h hb hc h2).2.1] at hbc; cases hbc
          · rw [(pL_over h hb hc hbc).1] at h2; cases h2
      · exact .inr e

/-- the model's places: each place told to the room there -/
def placK (q : Nat → Nat → Bool) (r : Nat) : Nat → List Nat
  | 0 => List.replicate r 0
  | k + 1 => (placK q r k).set ((lineN q r r).getD k 0) k
theorem placK_len (q : Nat → Nat → Bool) (r : Nat) : ∀ k, (placK q r k).length = r
  | 0 => List.length_replicate
  | k + 1 => by rw [placK, List.length_set]; exact placK_len q r k
theorem placK_at {q : Nat → Nat → Bool} {r : Nat} (L : Lin q r) : ∀ k, k ≤ r → ∀ x, x < r → placeN q r x < k → (placK q r k).getD x 0 = placeN q r x
  | 0, _, x, _, h => by omega
  | k + 1, hk, x, hx, h => by
    obtain ⟨b1, b2⟩ := L.back (k := k) (by omega)
    rw [placK, getD_set _ _ _ _ (by rw [placK_len]; exact b2)]
    by_cases he : x = (lineN q r r).getD k 0
    · rw [if_pos he]; rw [← he] at b1; exact b1.symm
    · rw [if_neg he]
      refine placK_at L k (by omega) x hx ?_
      rcases Nat.lt_or_ge (placeN q r x) k with h1 | h1
      · exact h1
      · exfalso
        exact he (L.inj hx b2 (by omega))

theorem permQ_at {q1 q2 : Nat → Nat → Bool} {r i : Nat} (hi : i < r) : (permQ q1 q2 r).getD i 0 = placeN q1 r ((lineN q2 r r).getD i 0) := by simp [permQ, hi]
theorem ints_push (L : List Int) (i : Nat) (h : i < L.length) : L.take (i + 1) = L.take i ++ [L.getD i 0] := by
  rw [List.take_succ_eq_append_getElem h]; simp [h]

theorem permL_no {p : List ByteArray} (h : plainB p = false) : permL p = [] := List.eq_nil_of_length_eq_zero (by rw [permL_len, oR_no h])
end Go.Proofs.Ytcapagegeomebaa
