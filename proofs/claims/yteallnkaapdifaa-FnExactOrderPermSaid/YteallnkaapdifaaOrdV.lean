
/-
  The model's answers about two rooms: left, above, the kind. (Walks.)
-/
import Derived.Test.YteallnkaapdifaaOrdU
import Derived.Test.YteallnkaapdifaaOrdX
import Derived.Test.YteallnkaapdifaaPoint
namespace Go.Proofs.Yteallnkaapdifaa
open Go.RowKit

theorem l5Plain_any (ao : Option Addr) (cap : Nat) (p : List ByteArray) (w : World) (hl : p.length ≤ 1048576) (hs : ∀ s ∈ p, s.size ≤ 1048576) (hc : CellsAt w ao (p.map Value.string)) :
    Calls Try.prog 38 #[.slice ao p.length cap] w fun e w' => e = .returned (.bool (plainB p)) ∧ Below w.heap.size w w' := by
  have HP := Lib.hid (fun w hc => specWallPlain_any ao cap p w hl hs hc)
  unfold plainB
  generalize (planB p && decide (meetN p 4 = 0)) = x at *
  go_enter Try.func38, Try.ntmps38
  go_wp2_with (go_at_call 56; refine (HP.out _ hc).mono ?_; rintro e w1 ⟨rfl, hb1⟩)
  go_ret
  exact ⟨rfl, hb1⟩
/-- a plain plan and two rooms -/
def twoB (p : List ByteArray) (a b : Int) : Bool := plainB p && givenB p a && givenB p b
theorem twoB_is (p : List ByteArray) (a b : Int) : twoB p a b = (plainB p && oRm (gridR p) a && oRm (gridR p) b) := by
  unfold twoB
  cases h : plainB p
  · rfl
  · rw [given_oRm (plainB_plan h), given_oRm (plainB_plan h)]

theorem l5Rooms_any (ao : Option Addr) (cap : Nat) (p : List ByteArray) (a b : Int) (w : World) (hl : p.length ≤ 1048576) (hs : ∀ s ∈ p, s.size ≤ 1048576) (hc : CellsAt w ao (p.map Value.string)) :
    Calls Try.prog 34 #[.slice ao p.length cap, .int .i64 a, .int .i64 b] w fun e w' => e = .returned (.bool (twoB p a b)) ∧ Below w.heap.size w w' := by
  have HP := Lib.hid (fun w hc => l5Plain_any ao cap p w hl hs hc)
  have HA := Lib.hid (fun w hc => l1Given_any ao cap p a w hl hs hc)
  have HB := Lib.hid (fun w hc => l1Given_any ao cap p b w hl hs hc)
  unfold twoB
  generalize plainB p = x at *
  generalize givenB p a = y at *
  generalize givenB p b = z at *
  cases x
  · go_enter Try.func34, Try.ntmps34
    go_wp2_with (go_at_call 38; refine (HP.out _ hc).mono ?_; rintro e w1 ⟨rfl, hb1⟩; have hc1 := hc.below hb1)
    go_ret
    exact ⟨rfl, hb1⟩
  · cases y
    · go_enter Try.func34, Try.ntmps34
      go_wp2_with (first
        | (go_at_call 38; refine (HP.out _ hc).mono ?_; rintro e w1 ⟨rfl, hb1⟩; have hc1 := hc.below hb1)
        | (go_at_call 50; refine (HA.out _ hc1).mono ?_; rintro e w2 ⟨rfl, hb2⟩))
      go_ret
      exact ⟨rfl, below_step hb1 hb1.size hb2⟩
    · go_enter Try.func34, Try.ntmps34
      go_wp2_with (first
        | (go_at_call 38; refine (HP.out _ hc).mono ?_; rintro e w1 ⟨rfl, hb1⟩; have hc1 := hc.below hb1)
        | (go_at_call 50; refine (HA.out _ hc1).mono ?_; rintro e w2 ⟨rfl, hb2⟩; have hc2 := hc1.below hb2; clear HA)
        | (go_at_call 50; refine (HB.out _ hc2).mono ?_; rintro e w3 ⟨rfl, hb3⟩))
      go_ret
      exact ⟨rfl, below_step (below_step hb1 hb1.size hb2) (Nat.le_trans hb1.size hb2.size) hb3⟩

theorem block_in {w : World} {ao : Option Addr} {p : List ByteArray} (hp : planB p = true) (hc : CellsAt w ao (p.map Value.string)) : ∀ a, ao = some a → a.block < w.heap.size := fun a ha => by
  have h1 := (planP_of hp).grid.h1
  obtain ⟨b, off, he, hcell⟩ := hc 0 (.string (p.getD 0 ByteArray.empty)) (by rw [List.getElem?_map, List.getElem?_eq_getElem (by omega)]; simp [show 0 < p.length by omega])
  rw [ha] at he
  cases he
  exact World.block_lt_of_cell? w _ hcell
/-- the sets of a plain plan -/
theorem l5AllP_any (ao : Option Addr) (cap : Nat) (p : List ByteArray) (kind : Nat) (w : World) (hl : p.length ≤ 1048576) (hs : ∀ s ∈ p, s.size ≤ 1048576) (hp : planB p = true) (hc : CellsAt w ao (p.map Value.string)) :
    Calls Try.prog 35 #[.slice ao p.length cap, .int .i64 kind] w
      fun e w' => (∃ S, IsSets S (gridR p) (pL p kind) ∧ SetsRet w.heap.size S e w') ∧ Below w.heap.size w w' := l5All_any ao cap p kind w hl hs hp hc (block_in hp hc)

set_option maxRecDepth 100000 in
set_option maxHeartbeats 1600000 in
theorem specOrderLeft_any (ao : Option Addr) (cap : Nat) (p : List ByteArray) (a b : Int) (w : World) (hl : p.length ≤ 1048576) (hs : ∀ s ∈ p, s.size ≤ 1048576) (hc : CellsAt w ao (p.map Value.string)) :
    Calls Try.prog 12 #[.slice ao p.length cap, .int .i64 a, .int .i64 b] w fun e w' => e = .returned (.bool (ledP p 0 a b)) ∧ Below w.heap.size w w' := by
  have HR := Lib.hid (fun w hc => l5Rooms_any ao cap p a b w hl hs hc)
  cases ht : twoB p a b
  · rw [ledP_out (by rw [← twoB_is]; exact ht)]
    rw [ht] at HR
    go_enter Try.func12, Try.ntmps12
    go_wp2_with (go_at_call 34; refine (HR.out _ hc).mono ?_; rintro e w1 ⟨rfl, hb1⟩)
    go_ret
    exact ⟨rfl, hb1⟩
  · rw [ht] at HR
    rw [twoB_is, Bool.and_eq_true, Bool.and_eq_true] at ht
    obtain ⟨⟨hpl, ha⟩, hb⟩ := ht
    obtain ⟨ha0, ha1⟩ := oRm_iff.1 ha
    obtain ⟨hb0, hb1'⟩ := oRm_iff.1 hb
    obtain ⟨m, rfl⟩ : ∃ m : Nat, a = (m : Int) := ⟨a.toNat, by omega⟩
    obtain ⟨n, rfl⟩ : ∃ n : Nat, b = (n : Int) := ⟨b.toNat, by omega⟩
    rw [ledP_nat hpl 0 (by omega) (by omega)]
    have HA := Lib.hid (fun w hc => l5AllP_any ao cap p 0 w hl hs (plainB_plan hpl) hc)
    have hr9 := (planP_of (plainB_plan hpl)).few
    change Hid (∀ w _, Calls _ _ #[.slice ao p.length cap, .int .i64 0] w _) at HA
    generalize pL p 0 = f at *
    generalize gridR p = r at *
    clear ha hb hpl
    go_enter Try.func12, Try.ntmps12
    go_wp2_with (first
      | (go_at_call 34; refine (HR.out _ hc).mono ?_; rintro e w1 ⟨rfl, hb1⟩; have hc1 := hc.below hb1)
      | (go_at_call 35; refine (HA.out _ hc1).mono ?_; rintro e w2 ⟨⟨S, his, gb, hgb, rfl, hB⟩, hb2⟩; have k1 : w2.cell? ⟨gb, m, none⟩ = some (.int .i64 ((S.getD m 0 : Nat) : Int)) := (hB.cell m).trans (setsV_at (by rw [his.len]; omega)); have hbit := bit_i64 (S.getD m 0) n (his.low m (by omega)); rw [his.bit m n (by omega)] at hbit; have hSl := his.len; have hms : (m : Int) < (S.length : Int) := (by omega); generalize S.getD m 0 = z at *; clear his))
    go_ret
    exact ⟨rfl, below_step hb1 hb1.size hb2⟩
set_option maxRecDepth 100000 in
set_option maxHeartbeats 1600000 in
theorem specOrderAbove_any (ao : Option Addr) (cap : Nat) (p : List ByteArray) (a b : Int) (w : World) (hl : p.length ≤ 1048576) (hs : ∀ s ∈ p, s.size ≤ 1048576) (hc : CellsAt w ao (p.map Value.string)) :
    Calls Try.prog 16 #[.slice ao p.length cap, .int .i64 a, .int .i64 b] w fun e w' => e = .returned (.bool (ledP p 1 a b)) ∧ Below w.heap.size w w' := by
  have HR := Lib.hid (fun w hc => l5Rooms_any ao cap p a b w hl hs hc)
  cases ht : twoB p a b
  · rw [ledP_out (by rw [← twoB_is]; exact ht)]
    rw [ht] at HR
    go_enter Try.func16, Try.ntmps16
    go_wp2_with (go_at_call 34; refine (HR.out _ hc).mono ?_; rintro e w1 ⟨rfl, hb1⟩)
    go_ret
    exact ⟨rfl, hb1⟩
  · rw [ht] at HR
    rw [twoB_is, Bool.and_eq_true, Bool.and_eq_true] at ht
    obtain ⟨⟨hpl, ha⟩, hb⟩ := ht
    obtain ⟨ha0, ha1⟩ := oRm_iff.1 ha
    obtain ⟨hb0, hb1'⟩ := oRm_iff.1 hb
    obtain ⟨m, rfl⟩ : ∃ m : Nat, a = (m : Int) := ⟨a.toNat, by omega⟩
    obtain ⟨n, rfl⟩ : ∃ n : Nat, b = (n : Int) := ⟨b.toNat, by omega⟩
    rw [ledP_nat hpl 1 (by omega) (by omega)]
    have HA := Lib.hid (fun w hc => l5AllP_any ao cap p 1 w hl hs (plainB_plan hpl) hc)
    have hr9 := (planP_of (plainB_plan hpl)).few
    change Hid (∀ w _, Calls _ _ #[.slice ao p.length cap, .int .i64 1] w _) at HA
    generalize pL p 1 = f at *
    generalize gridR p = r at *
    clear ha hb hpl
    go_enter Try.func16, Try.ntmps16
    go_wp2_with (first
      | (go_at_call 34; refine (HR.out _ hc).mono ?_; rintro e w1 ⟨rfl, hb1⟩; have hc1 := hc.below hb1)
      | (go_at_call 35; refine (HA.out _ hc1).mono ?_; rintro e w2 ⟨⟨S, his, gb, hgb, rfl, hB⟩, hb2⟩; have k1 : w2.cell? ⟨gb, m, none⟩ = some (.int .i64 ((S.getD m 0 : Nat) : Int)) := (hB.cell m).trans (setsV_at (by rw [his.len]; omega)); have hbit := bit_i64 (S.getD m 0) n (his.low m (by omega)); rw [his.bit m n (by omega)] at hbit; have hSl := his.len; have hms : (m : Int) < (S.length : Int) := (by omega); generalize S.getD m 0 = z at *; clear his))
    go_ret
    exact ⟨rfl, below_step hb1 hb1.size hb2⟩

theorem kind_out {p : List ByteArray} {a b : Int} (h : ∀ way, way < 2 → ledP p way a b = false ∧ ledP p way b a = false) : kindV p a b = ⟨#[]⟩ ∧ kindB p a b = false := by
  unfold kindV kindB
  rw [(h 0 (by omega)).1, (h 0 (by omega)).2, (h 1 (by omega)).1, (h 1 (by omega)).2]
  exact ⟨rfl, rfl⟩

set_option maxRecDepth 100000 in
set_option maxHeartbeats 4000000 in
theorem specOrderKind_any (ao : Option Addr) (cap : Nat) (p : List ByteArray) (a b : Int) (w : World) (hl : p.length ≤ 1048576) (hs : ∀ s ∈ p, s.size ≤ 1048576) (hc : CellsAt w ao (p.map Value.string)) :
    Calls Try.prog 18 #[.slice ao p.length cap, .int .i64 a, .int .i64 b] w fun e w' => e = .returned (.tuple #[.string (kindV p a b), .bool (kindB p a b)]) ∧ Below w.heap.size w w' := by
  have HR := Lib.hid (fun w hc => l5Rooms_any ao cap p a b w hl hs hc)
  cases ht : twoB p a b
  · have hk := kind_out (p := p) (a := a) (b := b) (fun way _ => ⟨ledP_out (by rw [← twoB_is]; exact ht) way, ledP_out (by rw [twoB_is] at ht; rw [← ht, Bool.and_assoc, Bool.and_assoc, Bool.and_comm (oRm _ b)]) way⟩)
    rw [hk.1, hk.2]
    rw [ht] at HR
    go_enter Try.func18, Try.ntmps18
    go_wp2_with (go_at_call 34; refine (HR.out _ hc).mono ?_; rintro e w1 ⟨rfl, hb1⟩)
    go_ret2
    exact ⟨rfl, hb1⟩
  · rw [ht] at HR
    rw [twoB_is, Bool.and_eq_true, Bool.and_eq_true] at ht
    obtain ⟨⟨hpl, ha⟩, hb⟩ := ht
    obtain ⟨ha0, ha1⟩ := oRm_iff.1 ha
    obtain ⟨hb0, hb1'⟩ := oRm_iff.1 hb
    obtain ⟨m, rfl⟩ : ∃ m : Nat, a = (m : Int) := ⟨a.toNat, by omega⟩
    obtain ⟨n, rfl⟩ : ∃ n : Nat, b = (n : Int) := ⟨b.toNat, by omega⟩
    have hmr : m < gridR p := by omega
    have hnr : n < gridR p := by omega
    by_cases hmn : m = n
    · subst hmn
      have hk := kind_out (p := p) (a := (m : Int)) (b := (m : Int)) (fun way hway => by
        have : ledP p way (m : Int) (m : Int) = false := by
          rw [ledP_nat hpl way hmr hmr]
          exact pL_self hpl hmr way hway
        exact ⟨this, this⟩)
      rw [hk.1, hk.2]
      have hd : ((m : Int) == (m : Int)) = true := beq_self_eq_true _
      go_enter Try.func18, Try.ntmps18
      go_wp2_with (go_at_call 34; refine (HR.out _ hc).mono ?_; rintro e w1 ⟨rfl, hb1⟩)
      go_ret2
      exact ⟨rfl, hb1⟩
    · have hd : ((m : Int) == (n : Int)) = false := by rw [beq_eq_false_iff_ne]; omega
      have hso := pL_some (plainB_plan hpl) hmr hnr hmn
      unfold kindV kindB
      rw [ledP_nat hpl 0 hmr hnr, ledP_nat hpl 0 hnr hmr, ledP_nat hpl 1 hmr hnr, ledP_nat hpl 1 hnr hmr]
      have HA := Lib.hid (fun w hc => l5AllP_any ao cap p 0 w hl hs (plainB_plan hpl) hc)
      have HB := Lib.hid (fun w hc => l5AllP_any ao cap p 1 w hl hs (plainB_plan hpl) hc)
      have hr9 := (planP_of (plainB_plan hpl)).few
      change Hid (∀ w _, Calls _ _ #[.slice ao p.length cap, .int .i64 0] w _) at HA
      change Hid (∀ w _, Calls _ _ #[.slice ao p.length cap, .int .i64 1] w _) at HB
      generalize pL p 0 = f at *
      generalize pL p 1 = g at *
      generalize gridR p = r at *
      clear ha hb hpl
      have HBIT := Lib.hid (fun (S : List Nat) (f : Nat → Nat → Bool) (h : IsSets S r f) (x y : Nat) (hx : x < r) => show (bits .and .i64 (((S.getD x 0 : Nat) : Int) / 2 ^ y) 1 == 1) = f x y by
        rw [← h.bit x y hx]; exact bit_i64 _ y (h.low x hx))
      have HCEL := Lib.hid (fun (S : List Nat) (f : Nat → Nat → Bool) (h : IsSets S r f) (x : Nat) (hx : x < r) => show (setsV S)[x]? = some (.int .i64 ((S.getD x 0 : Nat) : Int)) from setsV_at (by rw [h.len]; exact hx))
      cases h1 : f m n
      · cases h2 : f n m
        · cases h3 : g m n
          · have h4 : g n m = true := by
              rw [h1, h2, h3] at hso
              simpa using hso
            rw [h4]
            go_enter Try.func18, Try.ntmps18
            go_wp2_with (first
              | (go_at_call 34; refine (HR.out _ hc).mono ?_; rintro e w1 ⟨rfl, hb1⟩; have hc1 := hc.below hb1)
              | (go_at_call 35; refine (HA.out _ hc1).mono ?_; rintro e w2 ⟨⟨S, his, gb, hgb, rfl, hB⟩, hb2⟩; have hc2 := hc1.below hb2; clear HA)
              | (go_at_call 35; refine (HB.out _ hc2).mono ?_; rintro e w3 ⟨⟨S2, his2, gb2, hgb2, rfl, hB2⟩, hb3⟩; have k1 := ((hB.below hb3).cell m).trans (HCEL.out S f his m hmr); have k2 := ((hB.below hb3).cell n).trans (HCEL.out S f his n hnr); have k3 := (hB2.cell m).trans (HCEL.out S2 g his2 m hmr); have t1 := HBIT.out S f his m n hmr; have t2 := HBIT.out S f his n m hnr; have t3 := HBIT.out S2 g his2 m n hmr; have l1 := his.len; have l2 := his2.len; have s1 : (m : Int) < (S.length : Int) := (by omega); have s2 : (n : Int) < (S.length : Int) := (by omega); have s3 : (m : Int) < (S2.length : Int) := (by omega); generalize S.getD m 0 = z1 at *; generalize S.getD n 0 = z2 at *; generalize S2.getD m 0 = z3 at *; rw [h1] at t1; rw [h2] at t2; rw [h3] at t3; clear his his2 hB hB2 HBIT HCEL))
            go_ret2
            exact ⟨rfl, below_step (below_step hb1 hb1.size hb2) (Nat.le_trans hb1.size hb2.size) hb3⟩
          · clear hso
            go_enter Try.func18, Try.ntmps18
            go_wp2_with (first
              | (go_at_call 34; refine (HR.out _ hc).mono ?_; rintro e w1 ⟨rfl, hb1⟩; have hc1 := hc.below hb1)
              | (go_at_call 35; refine (HA.out _ hc1).mono ?_; rintro e w2 ⟨⟨S, his, gb, hgb, rfl, hB⟩, hb2⟩; have hc2 := hc1.below hb2; clear HA)
              | (go_at_call 35; refine (HB.out _ hc2).mono ?_; rintro e w3 ⟨⟨S2, his2, gb2, hgb2, rfl, hB2⟩, hb3⟩; have k1 := ((hB.below hb3).cell m).trans (HCEL.out S f his m hmr); have k2 := ((hB.below hb3).cell n).trans (HCEL.out S f his n hnr); have k3 := (hB2.cell m).trans (HCEL.out S2 g his2 m hmr); have t1 := HBIT.out S f his m n hmr; have t2 := HBIT.out S f his n m hnr; have t3 := HBIT.out S2 g his2 m n hmr; have l1 := his.len; have l2 := his2.len; have s1 : (m : Int) < (S.length : Int) := (by omega); have s2 : (n : Int) < (S.length : Int) := (by omega); have s3 : (m : Int) < (S2.length : Int) := (by omega); generalize S.getD m 0 = z1 at *; generalize S.getD n 0 = z2 at *; generalize S2.getD m 0 = z3 at *; rw [h1] at t1; rw [h2] at t2; rw [h3] at t3; clear his his2 hB hB2 HBIT HCEL))
            go_ret2
            exact ⟨rfl, below_step (below_step hb1 hb1.size hb2) (Nat.le_trans hb1.size hb2.size) hb3⟩
        · clear hso
          go_enter Try.func18, Try.ntmps18
          go_wp2_with (first
            | (go_at_call 34; refine (HR.out _ hc).mono ?_; rintro e w1 ⟨rfl, hb1⟩; have hc1 := hc.below hb1)
            | (go_at_call 35; refine (HA.out _ hc1).mono ?_; rintro e w2 ⟨⟨S, his, gb, hgb, rfl, hB⟩, hb2⟩; have hc2 := hc1.below hb2; clear HA)
            | (go_at_call 35; refine (HB.out _ hc2).mono ?_; rintro e w3 ⟨⟨S2, his2, gb2, hgb2, rfl, hB2⟩, hb3⟩; have k1 := ((hB.below hb3).cell m).trans (HCEL.out S f his m hmr); have k2 := ((hB.below hb3).cell n).trans (HCEL.out S f his n hnr); have k3 := (hB2.cell m).trans (HCEL.out S2 g his2 m hmr); have t1 := HBIT.out S f his m n hmr; have t2 := HBIT.out S f his n m hnr; have t3 := HBIT.out S2 g his2 m n hmr; have l1 := his.len; have l2 := his2.len; have s1 : (m : Int) < (S.length : Int) := (by omega); have s2 : (n : Int) < (S.length : Int) := (by omega); have s3 : (m : Int) < (S2.length : Int) := (by omega); generalize S.getD m 0 = z1 at *; generalize S.getD n 0 = z2 at *; generalize S2.getD m 0 = z3 at *; rw [h1] at t1; rw [h2] at t2; clear his his2 hB hB2 HBIT HCEL))
          go_ret2
          exact ⟨rfl, below_step (below_step hb1 hb1.size hb2) (Nat.le_trans hb1.size hb2.size) hb3⟩
      · clear hso
        go_enter Try.func18, Try.ntmps18
        go_wp2_with (first
          | (go_at_call 34; refine (HR.out _ hc).mono ?_; rintro e w1 ⟨rfl, hb1⟩; have hc1 := hc.below hb1)
          | (go_at_call 35; refine (HA.out _ hc1).mono ?_; rintro e w2 ⟨⟨S, his, gb, hgb, rfl, hB⟩, hb2⟩; have hc2 := hc1.below hb2; clear HA)
          | (go_at_call 35; refine (HB.out _ hc2).mono ?_; rintro e w3 ⟨⟨S2, his2, gb2, hgb2, rfl, hB2⟩, hb3⟩; have k1 := ((hB.below hb3).cell m).trans (HCEL.out S f his m hmr); have k2 := ((hB.below hb3).cell n).trans (HCEL.out S f his n hnr); have k3 := (hB2.cell m).trans (HCEL.out S2 g his2 m hmr); have t1 := HBIT.out S f his m n hmr; have t2 := HBIT.out S f his n m hnr; have t3 := HBIT.out S2 g his2 m n hmr; have l1 := his.len; have l2 := his2.len; have s1 : (m : Int) < (S.length : Int) := (by omega); have s2 : (n : Int) < (S.length : Int) := (by omega); have s3 : (m : Int) < (S2.length : Int) := (by omega); generalize S.getD m 0 = z1 at *; generalize S.getD n 0 = z2 at *; generalize S2.getD m 0 = z3 at *; rw [h1] at t1; clear his his2 hB hB2 HBIT HCEL))
        go_ret2
        exact ⟨rfl, below_step (below_step hb1 hb1.size hb2) (Nat.le_trans hb1.size hb2.size) hb3⟩
end Go.Proofs.Yteallnkaapdifaa
