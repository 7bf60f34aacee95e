
/-
  The program's iterator over four places. (Walk inside a fence.)
-/
import Derived.Test.YtkpjlglfhhdcbaaSevW
import Derived.RangeFuncNested
import Derived.RangeFuncBound
import Derived.RangeFuncCalls
import Derived.RangeFuncLeaves
import Derived.Shelf.Abstract
import Derived.Shelf.RegionOpen
import Derived.WalkKit
import Derived.OwnWalkIn
import Derived.TacticsInMore
import Derived.LoopNIn
import Derived.LoopIn
namespace Go.Proofs.Ytkpjlglfhhdcbaa
open Go.RowKit Go.Shelf

attribute [local go_sem] Oper.semAt_some

/-- four places in ascending order -/
structure Fr where
  a : Nat
  b : Nat
  c : Nat
  d : Nat
  hab : a < b
  hbc : b < c
  hcd : c < d
  hd7 : d < 7
def encF (x : Fr) : Array Value := #[.agg #[.int .i64 (x.a : Int), .int .i64 (x.b : Int), .int .i64 (x.c : Int), .int .i64 (x.d : Int)]]
def Fr.code (x : Fr) : Nat := x.a * 343 + x.b * 49 + x.c * 7 + x.d
theorem Fr.same {x y : Fr} (h : x.code = y.code) : x = y := by
  obtain ⟨a, b, c, d, h1, h2, h3, h4⟩ := x
  obtain ⟨a', b', c', d', k1, k2, k3, k4⟩ := y
  unfold Fr.code at h
  simp only at h
  obtain rfl : a = a' := by omega
  obtain rfl : b = b' := by omega
  obtain rfl : c = c' := by omega
  obtain rfl : d = d' := by omega
  rfl
/-- all four places of n that come ahead of some are told -/
structure Upto (n K : Nat) (pre : List Fr) : Prop where
  low : ∀ x ∈ pre, x.d < n
  few : pre.length ≤ K
  all : ∀ x : Fr, x.d < n → x.code < K → x ∈ pre
set_option maxRecDepth 100000 in
theorem digits_c {a b c n xa xb xc xd : Nat} (h1 : xa < xb) (h2 : xb < xc) (h3 : xc < xd) (h4 : xd < 7) (hd : xd < n) (hc : n ≤ c) (h : xa * 343 + xb * 49 + xc * 7 + xd < a * 343 + (b + 1) * 49) (hb : b < 7) : xa * 343 + xb * 49 + xc * 7 + xd < a * 343 + b * 49 + c * 7 := by
  rcases Nat.lt_or_ge xa a with ha | ha
  · omega
  · have ha2 : xa ≤ a := by omega
    obtain rfl : xa = a := by omega
    omega
set_option maxRecDepth 100000 in
theorem digits_b {a b n xa xb xc xd : Nat} (h1 : xa < xb) (h2 : xb < xc) (h3 : xc < xd) (h4 : xd < 7) (hd : xd < n) (hb : n ≤ b) (h : xa * 343 + xb * 49 + xc * 7 + xd < (a + 1) * 343) : xa * 343 + xb * 49 + xc * 7 + xd < a * 343 + b * 49 := by
  rcases Nat.lt_or_ge xa a with ha | ha
  · omega
  · obtain rfl : xa = a := by omega
    omega
theorem code_c {x : Fr} {n a b c : Nat} (hd : x.d < n) (h : x.code < a * 343 + (b + 1) * 49) (hc : n ≤ c) (hb : b < 7) : x.code < a * 343 + b * 49 + c * 7 := digits_c x.hab x.hbc x.hcd x.hd7 hd hc h hb
theorem code_b {x : Fr} {n a b : Nat} (hd : x.d < n) (h : x.code < (a + 1) * 343) (hb : n ≤ b) : x.code < a * 343 + b * 49 := digits_b x.hab x.hbc x.hcd x.hd7 hd hb h
theorem upto_nil (n : Nat) : Upto n 0 [] := ⟨by simp, Nat.le_refl _, fun x _ h => by omega⟩
theorem Upto.skip {n K K' : Nat} {pre : List Fr} (h : Upto n K pre) (hK : K ≤ K') (hno : ∀ x : Fr, x.d < n → x.code < K' → x.code < K) : Upto n K' pre :=
  ⟨h.low, Nat.le_trans h.few hK, fun x hd hc => h.all x hd (hno x hd hc)⟩
theorem Upto.add {n K : Nat} {pre : List Fr} (h : Upto n K pre) (x : Fr) (hx : x.code = K) (hd : x.d < n) : Upto n (K + 1) (pre ++ [x]) := by
  refine ⟨fun y hy => ?_, by rw [List.length_append]; have := h.few; simp only [List.length_singleton]; omega, fun y hyd hyc => ?_⟩
  · rw [List.mem_append, List.mem_singleton] at hy
    rcases hy with hy | rfl
    · exact h.low y hy
    · exact hd
  · rw [List.mem_append, List.mem_singleton]
    by_cases hlt : y.code < K
    · exact .inl (h.all y hyd hlt)
    · exact .inr (Fr.same (by omega))
/-- what a round keeps: how many numbers there are -/
def KeepN (b : Nat) (W W' : World) : Prop := W'.heap[b]? = W.heap[b]?

set_option maxRecDepth 100000 in
set_option maxHeartbeats 4000000 in
theorem fours1_in (f : Nat) (hf : 3 ≤ f) (l B n : Nat) (hn7 : n ≤ 7) (J Jx : List Fr → World → Prop)
    (hY : ∀ pre x W, J pre W → pre.length < 2401 → YieldAt Fence.wide (f - 1) Try.prog l (encF x) W fun e W' =>
      (e = .returned (.bool true) ∧ J (pre ++ [x]) W' ∧ KeepN B W W') ∨ (e = .returned (.bool false) ∧ Jx (pre ++ [x]) W'))
    (W : World) (hp : HeldB W B 3 #[.int .i64 (n : Int)]) (h0 : J [] W) :
    CallsIn Fence.wide f Try.prog 64 #[.func (.yield l) #[] #[], .pointer (some ⟨B, 0, none⟩)] W fun e W' => (∃ v, e = .returned v) ∧
      ((∃ ys, Upto n 2401 ys ∧ J ys W') ∨ (∃ pre, (∀ x ∈ pre, (x : Fr).d < n) ∧ Jx pre W')) := by
  have hF : ∀ k, Fence.wide.fn k := fun _ => trivial
  have hn1 : 1 ≤ f := by omega
  refine callsIn_of_wp Try.func64 rfl trivial ?_ rfl
  simp only [Try.ntmps64, List.size_toArray, List.length_cons, List.length_nil, Nat.reduceAdd, Nat.reduceSub, Array.replicate_succ, Array.replicate_zero, List.push_toArray, List.append_toArray, List.nil_append, List.cons_append]
  have hcn := hp.cell 0
  rw [show (#[.int .i64 (n : Int)] : Array Value)[0]? = some (.int .i64 (n : Int)) from rfl] at hcn
  gi_wp2
  clear hcn
  gi_loopw [8] (fun va wr => ∃ (a : Nat) (pre : List Fr), a ≤ n ∧ va = .int .i64 a ∧ Upto n (a * 343) pre ∧ J pre wr ∧ HeldB wr B 3 #[.int .i64 (n : Int)]) (fun va _ => n - (intOf va).toNat)
  case atStart => exact ⟨0, [], Nat.zero_le _, rfl, upto_nil n, h0, hp⟩
  case round =>
    clear h0 hp
    obtain ⟨a, pa, han, rfl, hU, hJ, hH⟩ := hrel
    have hU := Lib.hid hU
    by_cases hla : a < n
    · gi_wp2
      gi_loopw [4] (fun vb wr => ∃ (b : Nat) (pre : List Fr), a + 1 ≤ b ∧ b ≤ n ∧ vb = .int .i64 b ∧ Upto n (a * 343 + b * 49) pre ∧ J pre wr ∧ HeldB wr B 3 #[.int .i64 (n : Int)]) (fun vb _ => n - (intOf vb).toNat)
      case atStart => exact ⟨a + 1, pa, Nat.le_refl _, hla, by go_num, hU.out.skip (by omega) (fun x hd hc => by have := x.hab; have := x.hbc; have := x.hcd; have := x.hd7; unfold Fr.code at *; omega), hJ, hH⟩
      case round =>
        clear hJ hH
        obtain ⟨b, pb, hab, hbn, rfl, hU2, hJ, hH⟩ := hrel
        have hU2 := Lib.hid hU2
        have hcn := hH.cell 0
        rw [show (#[.int .i64 (n : Int)] : Array Value)[0]? = some (.int .i64 (n : Int)) from rfl] at hcn
        by_cases hlb : b < n
        · gi_wp2
          clear hcn
          gi_loopw [5] (fun vc wr => ∃ (c : Nat) (pre : List Fr), b + 1 ≤ c ∧ c ≤ n ∧ vc = .int .i64 c ∧ Upto n (a * 343 + b * 49 + c * 7) pre ∧ J pre wr ∧ HeldB wr B 3 #[.int .i64 (n : Int)]) (fun vc _ => n - (intOf vc).toNat)
          case atStart => exact ⟨b + 1, pb, Nat.le_refl _, hlb, by go_num, hU2.out.skip (by omega) (fun x hd hc => by have := x.hab; have := x.hbc; have := x.hcd; have := x.hd7; unfold Fr.code at *; omega), hJ, hH⟩
          case round =>
            clear hJ hH
            obtain ⟨c, pc, hbc, hcn', rfl, hU3, hJ, hH⟩ := hrel
            have hU3 := Lib.hid hU3
            have hcn := hH.cell 0
            rw [show (#[.int .i64 (n : Int)] : Array Value)[0]? = some (.int .i64 (n : Int)) from rfl] at hcn
            by_cases hlc : c < n
            · gi_wp2
              clear hcn
              gi_loopw [6] (fun vd wr => ∃ (d : Nat) (pre : List Fr), c + 1 ≤ d ∧ d ≤ n ∧ vd = .int .i64 d ∧ Upto n (a * 343 + b * 49 + c * 7 + d) pre ∧ J pre wr ∧ HeldB wr B 3 #[.int .i64 (n : Int)]) (fun vd _ => n - (intOf vd).toNat)
              case atStart => exact ⟨c + 1, pc, Nat.le_refl _, hlc, by go_num, hU3.out.skip (by omega) (fun x hd hc => by have := x.hab; have := x.hbc; have := x.hcd; have := x.hd7; unfold Fr.code at *; omega), hJ, hH⟩
              case round =>
                clear hJ hH
                obtain ⟨d, pd, hcd, hdn, rfl, hU4, hJ, hH⟩ := hrel
                have hU4 := Lib.hid hU4
                have hcn := hH.cell 0
                rw [show (#[.int .i64 (n : Int)] : Array Value)[0]? = some (.int .i64 (n : Int)) from rfl] at hcn
                by_cases hld : d < n
                · have hfew := hU4.out.few
                  have HY := hY pd ⟨a, b, c, d, by omega, by omega, by omega, by omega⟩ wr hJ (by omega)
                  have hAD := Lib.hid (hU4.out.add ⟨a, b, c, d, by omega, by omega, by omega, by omega⟩ rfl hld)
                  obtain ⟨fn, tmps, assign, body, hy, hR⟩ := HY
                  simp only [encF] at hy
                  gi_wp2
                  refine hR.mono ?_
                  rintro e W3 (⟨rfl, hJ3, hk3⟩ | ⟨rfl, hJx3⟩)
                  · have hH3 : HeldB W3 B 3 #[.int .i64 (n : Int)] := (show W3.heap[B]? = wr.heap[B]? from hk3).trans hH
                    clear hy hR hJ hH hcn hk3
                    gi_wp2
                    go_roundw
                    case rel => exact ⟨d + 1, _, by omega, by omega, by go_num, hAD.out, hJ3, hH3⟩
                    case measure => simp [intOf]; omega
                  · clear hy hR hJ hH hcn
                    gi_wp2
                    refine bodyPost_ret (results_none rfl _ _ _) rfl ?_
                    exact ⟨⟨_, rfl⟩, .inr ⟨_, hAD.out.low, hJx3⟩⟩
                · have hdf : decide ((d : Int) < (n : Int)) = false := by rw [decide_eq_false_iff_not]; omega
                  gi_wp2
                  go_roundw
                  case rel => exact ⟨c + 1, pd, by omega, by omega, by go_num, hU4.out.skip (by omega) (fun x hd hc => by have := x.hab; have := x.hbc; have := x.hcd; have := x.hd7; unfold Fr.code at *; omega), hJ, hH⟩
                  case measure => simp [intOf]; omega
            · have hdf : decide ((c : Int) < (n : Int)) = false := by rw [decide_eq_false_iff_not]; omega
              gi_wp2
              go_roundw
              case rel => exact ⟨b + 1, pc, by omega, by omega, by go_num, hU3.out.skip (by omega) (fun x hd hc => code_c hd hc (by omega) (by omega)), hJ, hH⟩
              case measure => simp [intOf]; omega
        · have hdf : decide ((b : Int) < (n : Int)) = false := by rw [decide_eq_false_iff_not]; omega
          gi_wp2
          go_roundw
          case rel => exact ⟨a + 1, pb, by omega, by go_num, hU2.out.skip (by omega) (fun x hd hc => code_b hd hc (by omega)), hJ, hH⟩
          case measure => simp [intOf]; omega
    · have hdf : decide ((a : Int) < (n : Int)) = false := by rw [decide_eq_false_iff_not]; omega
      gi_wp2
      go_end0
      exact ⟨⟨_, rfl⟩, .inl ⟨pa, hU.out.skip (by omega) (fun x hd hc => by have := x.hab; have := x.hbc; have := x.hcd; have := x.hd7; unfold Fr.code at *; omega), hJ⟩⟩

theorem fours_stops (f : Nat) (hf : 3 ≤ f) (B n : Nat) (hn7 : n ≤ 7) (w : World) (hp : HeldB w B 3 #[.int .i64 (n : Int)]) :
    SeqStopsK Fence.wide f Try.prog 64 #[.pointer (some ⟨B, 0, none⟩)] encF (KeepN B) (fun ys => Upto n 2401 ys) (fun pre => ∀ x ∈ pre, (x : Fr).d < n) 2401 w := fun l J Jx W hW _ _ hY h0 =>
  fours1_in f hf l B n hn7 J Jx hY W ((hW.block B (Array.getElem?_eq_some_iff.1 hp).1).trans hp) h0

end Go.Proofs.Ytkpjlglfhhdcbaa
