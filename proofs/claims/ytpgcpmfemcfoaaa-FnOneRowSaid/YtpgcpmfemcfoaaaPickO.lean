/-
  What draws read of a code. (Merged texts: DrawA, and of DrawB what opens.)
-/
import Derived.Test.YtpgcpmfemcfoaaaRowO
import Derived.Test.YtpgcpmfemcfoaaaArgsO
import Derived.BigQuiet
import Derived.Laws.BitsAllLaws
import Derived.OpenShut

/-
  The numbers that draws pick. (Walks.)
-/
namespace Go.Proofs.Ytpgcpmfemcfoaaa
open Go.RowKit

/-- a reader of a code that is told: what it reads, and how far it is at most -/
def RdC (ao : Option Addr) (cap : Nat) (c : List UInt8) (N B : Nat) (w : World) : Prop :=
  ∃ p : Nat, c.length ≤ 2000 ∧ p ≤ N ∧ HeldB w B 94 #[.slice ao c.length cap, .int .i64 p] ∧ CellsAt w ao (c.map byteV) ∧ (c.length = 0 ∨ ∀ a, ao = some a → a.block ≠ B)
theorem RdC.below {ao : Option Addr} {cap : Nat} {c : List UInt8} {N B : Nat} {w w' : World} (h : RdC ao cap c N B w) (hb : Below w.heap.size w w') : RdC ao cap c N B w' := by
  obtain ⟨p, h1, h2, h3, h4, h5⟩ := h
  exact ⟨p, h1, h2, h3.below hb, h4.below hb, h5⟩
theorem RdC.lt {ao : Option Addr} {cap : Nat} {c : List UInt8} {N B : Nat} {w : World} (h : RdC ao cap c N B w) : B < w.heap.size := by
  obtain ⟨p, h1, h2, h3, h4⟩ := h
  exact h3.lt
theorem RdC.mono {ao : Option Addr} {cap : Nat} {c : List UInt8} {N M B : Nat} {w : World} (h : RdC ao cap c N B w) (hm : N ≤ M) : RdC ao cap c M B w := by
  obtain ⟨p, h1, h2, h3⟩ := h
  exact ⟨p, h1, Nat.le_trans h2 hm, h3⟩
/-- a reader of a code: what it reads, and how far it is at most -/
def RdAt (N B : Nat) (w : World) : Prop :=
  ∃ (ao : Option Addr) (cap p : Nat) (c : List UInt8), c.length ≤ 2000 ∧ p ≤ N ∧ HeldB w B 94 #[.slice ao c.length cap, .int .i64 p] ∧ CellsAt w ao (c.map byteV) ∧ (c.length = 0 ∨ ∀ a, ao = some a → a.block ≠ B)

theorem RdAt.below {N B : Nat} {w w' : World} (h : RdAt N B w) (hb : Below w.heap.size w w') : RdAt N B w' := by
  obtain ⟨ao, cap, p, c, h1, h2, h3, h4, h5⟩ := h
  exact ⟨ao, cap, p, c, h1, h2, h3.below hb, h4.below hb, h5⟩
theorem RdAt.told {N B : Nat} {w : World} (h : RdAt N B w) : ∃ ao cap c, RdC ao cap c N B w := by
  obtain ⟨ao, cap, p, c, h⟩ := h
  exact ⟨ao, cap, c, p, h⟩
theorem RdC.rd {ao : Option Addr} {cap : Nat} {c : List UInt8} {N B : Nat} {w : World} (h : RdC ao cap c N B w) : RdAt N B w := by
  obtain ⟨p, h⟩ := h
  exact ⟨ao, cap, p, c, h⟩
theorem RdAt.mono {N M B : Nat} {w : World} (h : RdAt N B w) (hm : N ≤ M) : RdAt M B w := by
  obtain ⟨ao, cap, p, c, h1, h2, h3⟩ := h
  exact ⟨ao, cap, p, c, h1, Nat.le_trans h2 hm, h3⟩
theorem RdAt.lt {N B : Nat} {w : World} (h : RdAt N B w) : B < w.heap.size := by
  obtain ⟨ao, cap, p, c, h1, h2, h3, h4⟩ := h
  exact h3.lt
theorem grownBy_setCell (w : World) (B k : Nat) (v : Value) : w.grownBy (w.setCell ⟨B, k, none⟩ v) (some B) :=
  ⟨rfl, rfl, rfl, by simp [World.setCell], fun j _ hne => Below.heap_setCell w ⟨B, k, none⟩ v j (fun e => hne (by rw [e]))⟩
theorem CellsAt.set_other {w : World} {ao : Option Addr} {xs : List Value} (h : CellsAt w ao xs) {B : Nat} (hne : ∀ a, ao = some a → a.block ≠ B) (k : Nat) (v : Value) : CellsAt (w.setCell ⟨B, k, none⟩ v) ao xs :=
  h.grown (grownBy_setCell w B k v) (fun a ha e => hne a ha (by simpa using e))
theorem grownBy_drew {w w' : World} {row : Option Nat} (h : w.grownBy w' row) (n : Nat) : w.grownBy (w'.drewN n) row := ⟨h.os, h.tape, h.output, h.size, h.block⟩
theorem codeAt_set {w : World} {ao : Option Addr} {c : List UInt8} (h : CellsAt w ao (c.map byteV)) {B : Nat} (hne : c.length = 0 ∨ ∀ a, ao = some a → a.block ≠ B) (k : Nat) (v : Value) : CellsAt (w.setCell ⟨B, k, none⟩ v) ao (c.map byteV) := by
  rcases hne with h0 | h0
  · rw [List.length_eq_zero_iff.1 h0]; exact CellsAt.nil _ _
  · exact h.set_other h0 k v
theorem RdC.set_other {ao : Option Addr} {cap : Nat} {c : List UInt8} {N B : Nat} {w : World} (h : RdC ao cap c N B w) {g : Nat} (hg : B ≠ g) (hne : c.length = 0 ∨ ∀ a, ao = some a → a.block ≠ g) (k : Nat) (v : Value) : RdC ao cap c N B (w.setCell ⟨g, k, none⟩ v) := by
  obtain ⟨p, h1, h2, h3, h4, h5⟩ := h
  exact ⟨p, h1, h2, h3.kept (grownBy_setCell w g k v) (by simp only [ne_eq, Option.some.injEq]; exact hg), codeAt_set h4 hne k v, h5⟩
theorem xor_i64 (a b : Nat) (ha : a < 4294967296) (hb : b < 4294967296) : bits .xor .i64 (a : Int) (b : Int) = ((a ^^^ b : Nat) : Int) := by
  have hx : a ^^^ b < 2 ^ 32 := Nat.xor_lt_two_pow (by omega) (by omega)
  have h1 : (BitVec.ofInt 64 (a : Int)).toNat = a := by
    rw [BitVec.ofInt_natCast, BitVec.toNat_ofNat]; exact Nat.mod_eq_of_lt (by omega)
  have h2 : (BitVec.ofInt 64 (b : Int)).toNat = b := by
    rw [BitVec.ofInt_natCast, BitVec.toNat_ofNat]; exact Nat.mod_eq_of_lt (by omega)
  show IntKind.i64.wrap ((BitVec.ofInt 64 (a : Int) ^^^ BitVec.ofInt 64 (b : Int)).toNat : Int) = _
  rw [BitVec.toNat_xor, h1, h2]
  simp [IntKind.wrap, IntKind.bits, IntKind.signed]
  omega
theorem wrap64_id {n : Nat} (h : n < 4294967296) : wrap64 (n : Int) = (n : Int) := by unfold wrap64; omega
theorem xorShift_i64 (X : Nat) (h : X < 4294967296) : (X : Int).tdiv 64 = ((X / 64 : Nat) : Int) ∧ wrap64 ((X / 64 : Nat) : Int) = ((X / 64 : Nat) : Int) ∧ bits .xor .i64 (X : Int) ((X / 64 : Nat) : Int) = ((X ^^^ X / 64 : Nat) : Int) := by
  have h2 : X / 64 < 4294967296 := Nat.lt_of_le_of_lt (Nat.div_le_self _ _) h
  exact ⟨by rw [Int.tdiv_eq_ediv_of_nonneg (Int.natCast_nonneg _)]; rfl, wrap64_id h2, xor_i64 X (X / 64) h h2⟩
theorem rem_nat {x n : Int} (h0 : 0 ≤ x) (hn : 1 ≤ n) : ∃ v : Nat, x.tmod n = (v : Int) ∧ (v : Int) < n := by
  refine ⟨(x.tmod n).toNat, ?_, ?_⟩
  · rw [Int.toNat_of_nonneg (Int.tmod_nonneg _ h0)]
  · rw [Int.toNat_of_nonneg (Int.tmod_nonneg _ h0), Int.tmod_eq_emod_of_nonneg h0]; exact Int.emod_lt_of_pos _ (by omega)
set_option maxRecDepth 100000 in
set_option maxHeartbeats 4000000 in
theorem pick_c (ao : Option Addr) (cap : Nat) (c : List UInt8) (N B : Nat) (n : Int) (w : World) (hN : N ≤ 100000) (h : RdC ao cap c N B w) :
    Calls Try.prog 29 #[.pointer (some ⟨B, 0, none⟩), .int .i64 n] w
      fun e w' => ∃ v : Nat, e = .returned (.int .i64 (v : Nat)) ∧ (v = 0 ∨ (v : Int) < n) ∧ RdC ao cap c (N + 1) B w' ∧ w.grownBy w' (some B) := by
  obtain ⟨p, hc, hp, hR, hcs, hne⟩ := h
  have c1 := (hR.cell 1).trans (show (#[.slice ao c.length cap, .int .i64 p] : Array Value)[1]? = some (.int .i64 p) from rfl)
  have f1 := hR.frozen 1
  have hR2 := hR.set 1 (.int .i64 ((p : Int) + 1))
  have hg1 := grownBy_setCell w B 1 (.int .i64 ((p : Int) + 1))
  have hcs2 := codeAt_set hcs hne 1 (.int .i64 ((p : Int) + 1))
  have hRd : RdC ao cap c (N + 1) B (w.setCell ⟨B, 1, none⟩ (.int .i64 ((p : Int) + 1))) := ⟨p + 1, hc, by omega, hR2.eq (by simp), hcs2, hne⟩
  by_cases hn : n < 1
  · have hd : decide (n < 1) = true := decide_eq_true hn
    go_enter Try.func29, Try.ntmps29
    go_wp2
    go_ret
    exact ⟨0, rfl, .inl rfl, hRd, hg1⟩
  · have hd : decide (n < 1) = false := decide_eq_false hn
    have d0 := (hR2.cell 0).trans (show ((#[.slice ao c.length cap, .int .i64 p] : Array Value).setIfInBounds 1 (.int .i64 ((p : Int) + 1)))[0]? = some (.slice ao c.length cap) from rfl)
    have d1 := (hR2.cell 1).trans (show ((#[.slice ao c.length cap, .int .i64 p] : Array Value).setIfInBounds 1 (.int .i64 ((p : Int) + 1)))[1]? = some (.int .i64 ((p : Int) + 1)) from by simp)
    by_cases hz : c.length = 0
    · have hz' : ((c.length : Int) == 0) = true := by rw [beq_iff_eq]; omega
      go_enter Try.func29, Try.ntmps29
      go_wp2
      go_ret
      exact ⟨0, rfl, .inl rfl, hRd, hg1⟩
    · have hz' : ((c.length : Int) == 0) = false := by rw [beq_eq_false_iff_ne]; omega
      have hp1 : (p : Int) + 1 - 1 = (p : Int) := by omega
      by_cases hk : p < c.length
      · have hk' : decide ((p : Int) < (c.length : Int)) = true := by rw [decide_eq_true_eq]; omega
        obtain ⟨b, off, rfl, hcell⟩ := hcs2.byte p hk
        generalize c.getD p 0 = u at *
        have hn0 : n ≠ 0 := by omega
        go_enter Try.func29, Try.ntmps29
        go_wp2
        obtain ⟨v, hv, hv2⟩ := rem_nat (x := wrap64 (u.toNat : Nat)) (n := n) (by
          have := u.toNat_lt
          rw [show wrap64 (u.toNat : Nat) = (u.toNat : Int) from by unfold wrap64; omega]; omega) hn
        go_ret
        exact ⟨v, by rw [hv]; rfl, .inr hv2, hRd, hg1⟩
      · have hk' : decide ((p : Int) < (c.length : Int)) = false := by rw [decide_eq_false_iff_not]; omega
        have hn0 : n ≠ 0 := by omega
        obtain ⟨r1, e1, hr1⟩ := rem_nat (x := (p : Int)) (n := (c.length : Int)) (by omega) (by omega)
        obtain ⟨r2, e2, hr2⟩ := rem_nat (x := (p : Int) * 7 + 3) (n := (c.length : Int)) (by omega) (by omega)
        obtain ⟨q3, e3, hq3⟩ : ∃ q3 : Nat, (p : Int).tdiv (c.length : Int) = (q3 : Int) ∧ q3 ≤ p := ⟨p / c.length, Int.ofNat_tdiv p c.length ▸ rfl, Nat.div_le_self _ _⟩
        have hi1 : r1 < c.length := by omega
        have hi2 : r2 < c.length := by omega
        obtain ⟨b, off, rfl, hc1⟩ := hcs2.byte r1 hi1
        obtain ⟨b2, off2, he, hc2⟩ := hcs2.byte r2 hi2
        simp only [Option.some.injEq, Addr.mk.injEq, and_true] at he
        obtain ⟨rfl, rfl⟩ := he
        have hu1 := (c.getD r1 0).toNat_lt
        have hu2 := (c.getD r2 0).toNat_lt
        generalize c.getD r1 0 = u1 at *
        generalize c.getD r2 0 = u2 at *
        have w1 : wrap64 (u1.toNat : Nat) = (u1.toNat : Int) := by unfold wrap64; omega
        have w2 : wrap64 (u2.toNat : Nat) = (u2.toNat : Int) := by unfold wrap64; omega
        have hlen : 0 < c.length := by omega
        have hl0 : ¬ ((c.length : Int) = 0) := by omega
        have hRX := Lib.hid hRd; have HG1 := Lib.hid hg1; have HNE := Lib.hid hne
        clear hRd hg1 hne hcs hcs2 hR
        generalize hL : c.length = L at *
        have HL := Lib.hid hL; clear hL
        go_enter Try.func29, Try.ntmps29
        go_wp2
        generalize w.setCell ⟨B, 1, none⟩ (.int .i64 ((p : Int) + 1)) = W1 at *
        go_quiet (fail)
        obtain ⟨X, hX, hXl⟩ : ∃ X : Nat, (u1.toNat : Int) * 131 + (u2.toNat : Int) * 1117 + (p : Int) * 29 + (q3 : Int) * 53 = (X : Int) ∧ X < 4294967296 := ⟨u1.toNat * 131 + u2.toNat * 1117 + p * 29 + q3 * 53, by omega, by omega⟩
        rw [hX]
        obtain ⟨eD, eY, eX⟩ := xorShift_i64 X hXl
        obtain ⟨v, hv, hv2⟩ := rem_nat (x := ((X ^^^ X / 64 : Nat) : Int)) (n := n) (by omega) hn
        clear hX d0 d1 hc1 hc2 hR2 e1 e2 e3 c1 f1
        generalize X ^^^ X / 64 = Z at *
        generalize X / 64 = Y at *
        have EY := Lib.hid eY; have EX := Lib.hid eX; clear eY eX
        go_wp2
        go_ret
        exact ⟨v, by rw [EY.out, EX.out, hv]; rfl, .inr hv2, hRX.out.below (below_drewN _ _ _), grownBy_drew HG1.out _⟩

theorem pick_any (N B : Nat) (n : Int) (w : World) (hN : N ≤ 100000) (h : RdAt N B w) :
    Calls Try.prog 29 #[.pointer (some ⟨B, 0, none⟩), .int .i64 n] w
      fun e w' => ∃ v : Nat, e = .returned (.int .i64 (v : Nat)) ∧ (v = 0 ∨ (v : Int) < n) ∧ RdAt (N + 1) B w' ∧ w.grownBy w' (some B) := by
  obtain ⟨ao, cap, c, hc⟩ := h.told
  refine (pick_c ao cap c N B n w hN hc).mono ?_
  rintro e w' ⟨v, e1, e2, e3, e4⟩
  exact ⟨v, e1, e2, e3.rd, e4⟩

end Go.Proofs.Ytpgcpmfemcfoaaa

/-
  Draws of a text and of a reader. (Walks.)
-/
namespace Go.Proofs.Ytpgcpmfemcfoaaa
open Go.ChangeShapes Go.WideShapes Go.ChangeAt Go.RowKit

theorem Try.cellsByte : Try.prog.cellsOf 5 = 1 := by kernel_rfl
/-- an argument that is a slice of bytes, as cells -/
theorem open_bytes {H : Type} {enc : TypeId × Value → H} {W : World} {a0 : Option Addr} {len cap : Nat} {d : DataW H} {p : List MemPlace}
    (h : DataW.Trod enc Try.prog W 0 (fun _ => true) true 22 (.slice a0 len cap) d p) : ∃ c : List UInt8, c.length = len ∧ c.length ≤ maxLen ∧ c.length ≤ cap ∧ CellsAt W a0 (c.map byteV) := by
  obtain ⟨fuel, hf⟩ := h
  rcases open_ints Try.underlying22 Try.underlying5 Try.cellsByte hf with ⟨hcs, _⟩ | ⟨a, len', cap', zs, hcs, _, hl, hm, hz, _, hcell, hwz⟩
  · simp [Value.cells] at hcs
    obtain ⟨rfl, rfl, rfl⟩ := hcs
    exact ⟨[], rfl, Nat.zero_le _, Nat.zero_le _, CellsAt.nil _ _⟩
  · simp [Value.cells] at hcs
    obtain ⟨rfl, rfl, rfl⟩ := hcs
    simp only [if_true] at hz
    have hlen : ((zs.take len).map fun n => UInt8.ofNat n.toNat).length = len := by simp; omega
    refine ⟨(zs.take len).map fun n => UInt8.ofNat n.toNat, hlen, by rw [hlen]; omega, by rw [hlen]; omega, fun i u hu => ?_⟩
    rw [List.getElem?_map, List.getElem?_map, Option.map_map, Option.map_eq_some_iff] at hu
    obtain ⟨z, hs, rfl⟩ := hu
    have hi : i < (zs.take len).length := (List.getElem?_eq_some_iff.1 hs).1
    rw [List.length_take] at hi
    have hc := hcell i (by omega)
    obtain ⟨b, off, spot⟩ := a
    have hspot : spot = Option.none := by simpa [Addr.add] using World.cell?_spot (hcell 0 (by omega))
    subst hspot
    refine ⟨b, off, rfl, ?_⟩
    rw [add_plain] at hc
    rw [hc]
    rw [List.getElem?_take, if_pos (by omega)] at hs
    have hb := bounds_u8 (hwz z (List.mem_of_getElem? hs))
    simp only [List.getD_eq_getElem?_getD, hs, Option.getD_some, Function.comp_apply, byteV, Option.some.injEq, Value.int.injEq, true_and, UInt8.toNat_ofNat']
    omega

theorem cell_lt_size {w : World} {b o : Nat} {v : Value} (h : w.cell? ⟨b, o, none⟩ = some v) : b < w.heap.size := by
  rcases Nat.lt_or_ge b w.heap.size with h1 | h1
  · exact h1
  · simp [World.cell?, Array.getElem?_eq_none h1] at h

theorem code_lt {w : World} {ao : Option Addr} {c : List UInt8} (h : CellsAt w ao (c.map byteV)) : c.length = 0 ∨ ∀ a, ao = some a → a.block ≠ w.heap.size := by
  rcases Nat.eq_zero_or_pos c.length with h0 | h0
  · exact .inl h0
  · obtain ⟨b, o, rfl, hc⟩ := h.byte 0 h0
    exact .inr fun a ha => by cases ha; have := cell_lt_size hc; simp; omega

set_option maxRecDepth 100000 in
set_option maxHeartbeats 1000000 in
theorem l6Open_any (ao : Option Addr) (cap : Nat) (c : List UInt8) (w : World) (hcap : c.length ≤ cap) (hl : c.length ≤ 1048576) (hc : CellsAt w ao (c.map byteV)) :
    Calls Try.prog 27 #[.slice ao c.length cap] w
      fun e w' => e = .returned (.pointer (some ⟨w.heap.size, 0, none⟩)) ∧ RdAt 0 w.heap.size w' ∧ Below w.heap.size w w' := by
  have hb := below_alloc w
  by_cases h : 2000 < c.length
  · have hd : decide ((2000 : Int) < (c.length : Int)) = true := by rw [decide_eq_true_eq]; omega
    have h2 : 2000 ≤ cap := by omega
    have hR : RdAt 0 w.heap.size (w.alloc (.cells #[.slice ao 2000 cap, .int .i64 0] 94)) := by
      have hl2 : (c.take 2000).length = 2000 := by rw [List.length_take]; omega
      have hct : CellsAt w ao ((c.take 2000).map byteV) := fun i u hu => hc i u (by
        rw [List.getElem?_map] at hu ⊢
        rw [List.getElem?_take] at hu
        split at hu
        · exact hu
        · cases hu)
      refine ⟨ao, cap, 0, c.take 2000, by omega, Nat.le_refl _, ?_, hct.below (hb _), code_lt hct⟩
      rw [hl2]; exact HeldB.new w _ _
    obtain ⟨b, o, rfl, -⟩ := hc.byte 0 (by omega)
    go_enter Try.func27, Try.ntmps27
    go_wp2
    go_ret
    exact ⟨rfl, hR, hb _⟩
  · have hd : decide ((2000 : Int) < (c.length : Int)) = false := by rw [decide_eq_false_iff_not]; omega
    have hR : RdAt 0 w.heap.size (w.alloc (.cells #[.slice ao c.length cap, .int .i64 0] 94)) := by
      refine ⟨ao, cap, 0, c, by omega, Nat.le_refl _, HeldB.new w _ _, hc.below (hb _), code_lt hc⟩
    go_enter Try.func27, Try.ntmps27
    go_wp2
    go_ret
    exact ⟨rfl, hR, hb _⟩

end Go.Proofs.Ytpgcpmfemcfoaaa
