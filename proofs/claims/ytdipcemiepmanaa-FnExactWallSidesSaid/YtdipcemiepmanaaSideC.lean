/-
  The rooms of both sides of a wall told by its number: the program's answer. (Walk.)
-/
import Derived.Test.YtdipcemiepmanaaSideB
import Derived.Test.YtdipcemiepmanaaNeck
namespace Go.Proofs.Ytdipcemiepmanaa
open Go.RowKit

/-- a number that is one of a wall -/
def wallIn (p : List ByteArray) (n : Int) : Bool := decide (0 ≤ n) && decide (n < ((wallsP p).length : Nat))
def sideOrA (p : List ByteArray) (n : Int) : List Int := if wallIn p n = true then compactL (cellsA (planG p) ((wallsP p).getD n.toNat zeroWl) ((wallsP p).getD n.toNat zeroWl).long) else []
def sideOrB (p : List ByteArray) (n : Int) : List Int := if wallIn p n = true then compactL (cellsB' (planG p) ((wallsP p).getD n.toNat zeroWl) ((wallsP p).getD n.toNat zeroWl).long) else []

/-- two slices of numbers and a word, handed back -/
def TwoNums (base : Nat) (S T : List Int) (b : Bool) (e : Ending) (w' : World) : Prop :=
  ∃ r0 q0 r1 q1, e = .returned (.tuple #[.slice r0 S.length q0, .slice r1 T.length q1, .bool b]) ∧ w'.ownsRow base 3 1 (.slice r0 S.length q0) S.length (S.map (Value.int .i64)) ∧
    w'.ownsRow base 3 1 (.slice r1 T.length q1) T.length (T.map (Value.int .i64)) ∧ Apart r0 r1

theorem wallsP_mem {p : List ByteArray} {X : Wl} (h : X ∈ wallsP p) : 1 ≤ X.line ∧ X.line < 6 ∧ X.first + X.long ≤ 6 ∧ X.way < 2 := by
  obtain ⟨a, b, c, d, e, _⟩ := wallsG_mem h
  have h1 : acrossN (planH p) (planW p) X.way ≤ 6 := by unfold acrossN; have := planH_le p; have := planW_le p; split <;> omega
  have h2 : alongN (planH p) (planW p) X.way ≤ 6 := by unfold alongN; have := planH_le p; have := planW_le p; split <;> omega
  exact ⟨b, by omega, by omega, a⟩

theorem wpOp_want {P : Program} {ops : Array Oper} {Q : Exit → Act → World → Prop} {i : Nat} {o : Oper} {K : Act → World → Prop} {a : Act} {w : World} (hi : ops[i]? = some o) (hw : Region.wanted o (yielded ops a.tmps) = true) (h : o.wp P a w K Q) : wpOp P ops Q i K a w := by
  unfold wpOp
  simp only [hi, hw, if_true]
  exact .inl h
theorem wp_load_wl {P : Program} {op : Oper} {a : Act} {w : World} {K : Act → World → Prop} {Q : Exit → Act → World → Prop} (ty : TypeId) (x : Operand) (ho : op.op = .load ty x)
    (b o : Nat) (hx : a.eval x = .pointer (some ⟨b, o, none⟩)) (X : Wl) (d : TypeDesc) (hc : w.rangeAt b o (wlC X).toList)
    (hu : P.underlying ty = some d) (hd : d.isRow = true) (hi : (P.info? ty).map (·.size) = some 4)
    (h : K (a.put op.dst (.agg (wlC X))) w) : op.wp P a w K Q :=
  wp_load_mid ty x ho b o hx (wlC X).toList d hc hu hd hi (by simpa using h)

set_option maxRecDepth 100000 in
set_option maxHeartbeats 4000000 in
theorem implWallSides_any (ao : Option Addr) (cap : Nat) (p : List ByteArray) (n : Int) (w : World) (hl : p.length ≤ 1048576) (hs : ∀ s ∈ p, s.size ≤ 1048576) (hc : CellsAt w ao (p.map Value.string)) :
    Calls Try.prog 31 #[.slice ao p.length cap, .int .i64 n] w fun e w' => TwoNums w.heap.size (sideOrA p n) (sideOrB p n) (wallIn p n) e w' ∧ Below w.heap.size w w' := by
  have HLE := Lib.hid (wallsP_len p)
  have HMEM := Lib.hid (fun X (h : X ∈ wallsP p) => wallsP_mem h)
  have HRP := Lib.hid (fun w hc => by have := readPlan_any ao cap p w hl hs hc; rw [readC_plan, readOk_eq] at this; exact this)
  have HWA := Lib.hid (fun w => walls_any (planH p) (planW p) (planR p) (planG p) w (planH_le p) (planW_le p))
  have HSI := Lib.hid (fun (X : Wl) (hX : X ∈ wallsP p) w => sides_any (planH p) (planW p) (planR p) (planG p) X w (wallsP_mem hX).1 (wallsP_mem hX).2.1 (wallsP_mem hX).2.2.1)
  have HPS := Lib.hid (plan_size (planH p) (planW p) (planR p) (planG p))
  have HP1 := Lib.hid (planC_one (planH p) (planW p) (planR p) (planG p))
  have HCS := Lib.hid (planC_size (planH p) (planW p) (planR p) (planG p))
  change Hid (∀ w, Calls _ _ _ w fun e w' => ∃ ro rc, e = .returned (.slice ro (wallsP p).length rc) ∧ w'.ownsRow w.heap.size 53 4 (.slice ro (wallsP p).length rc) (wallsP p).length (wlsC (wallsP p)) ∧ Below w.heap.size w w') at HWA
  unfold sideOrA sideOrB wallIn
  generalize wallsP p = L at *
  generalize planG p = g at *
  generalize planC (planH p) (planW p) (planR p) g = C at *
  generalize planB p = pb at *
  by_cases hn0 : 0 ≤ n
  · obtain ⟨k, rfl⟩ : ∃ k : Nat, n = (k : Int) := ⟨n.toNat, by omega⟩
    have hd1 : decide ((k : Int) < 0) = false := by rw [decide_eq_false_iff_not]; omega
    by_cases hk : k < L.length
    · have hk2 : (k : Int) < (L.length : Int) := by omega
      have hd2 : decide ((L.length : Int) ≤ (k : Int)) = false := by rw [decide_eq_false_iff_not]; omega
      rw [decide_eq_true hn0, decide_eq_true hk2, Bool.and_self, if_pos rfl, if_pos rfl, Int.toNat_natCast]
      have HSX := Lib.hid (HSI.out _ (getD_mem zeroWl hk))
      generalize hX : L.getD k zeroWl = X at *
      have HX := Lib.hid hX; clear hX
      generalize compactL (cellsA g X X.long) = S at *
      generalize compactL (cellsB' g X X.long) = T at *
      go_enter Try.func31, Try.ntmps31
      go_wp2_with (first
        | (refine wpList_alloc_zero rfl 46 rfl zeroC zero_plan ?_)
        | (refine wpList_store_new rfl 46 _ _ rfl _ zeroC C rfl rfl rfl HPS.out (by rw [HCS.out]; rfl) HP1.out ?_)
        | (refine wpList_load_row rfl 46 _ rfl w1.heap.size rfl 46 C (0, 0) _ (HeldB.new w1 _ _) Try.underlying46 rfl HPS.out ?_)
        | (go_at_call 40; refine (HRP.out _ hc).mono ?_; rintro e w1 ⟨rfl, hb1⟩)
        | (go_at_call 41; refine (HWA.out _).mono ?_; rintro e w2 ⟨ro, rc, rfl, hown, hb2⟩))
      have bP := (HeldB.new w1 46 C).below hb2
      have hce := ownsK_cells hown
      obtain ⟨b, off, rfl, hrg⟩ := wls_range hce hk
      rw [HX.out] at hrg
      have hB2 : Below w.heap.size w w2 := below_step hb1 hb1.size ((below_alloc w1 (.cells C 46)).trans (hb2.mono (by simp)))
      clear hown hce hb1 hb2
      generalize w1.heap.size = BP at *
      refine wp_region_any (by kernel_rfl) ?_
      have hB3 : Below w.heap.size w { w2 with drawn := w2.drawn + 1 } := hB2.trans (below_drewN _ w2 1)
      have bP3 : HeldB { w2 with drawn := w2.drawn + 1 } BP 46 C := bP
      have hrg3 : World.rangeAt { w2 with drawn := w2.drawn + 1 } b (off + k * 4) (wlC X).toList := hrg
      generalize ({ w2 with drawn := w2.drawn + 1 } : World) = W3 at *
      clear bP hrg hB2
      change wpAny Try.prog Region.Mode.any _ _ 11 (Array.replicate 11 false) _ _
      refine wpAny_take (i := 1) (v := .slice (some ⟨b, off, none⟩) L.length rc) rfl (by kernel_rfl) (by kernel_rfl) (by kernel_rfl) (fun _ _ _ h => h) (Or.inl ⟨by rfl, fun w => by go_simp⟩) ?_
      refine wpAny_take (i := 2) (v := .int .i64 (k : Nat)) rfl (by kernel_rfl) (by kernel_rfl) (by kernel_rfl) (fun _ _ _ h => h) (Or.inl ⟨by rfl, fun w => by go_simp⟩) ?_
      refine wpAny_take (i := 3) (v := .pointer (some ⟨b, off + k * 4, none⟩)) rfl (by kernel_rfl) (by kernel_rfl) (by kernel_rfl) (fun _ _ _ h => h) (Or.inl ⟨by rfl, fun w => by go_simp⟩) ?_
      refine wpAny_all (rs := [0, 4]) (by kernel_rfl) (by decide) ?_
      intro i hi
      simp only [List.mem_cons, List.not_mem_nil, or_false] at hi
      rcases hi with rfl | rfl
      · refine wpOp_want rfl (by rfl) (wp_load_row 46 _ rfl BP (by rfl) 46 C (0, 0) _ bP3 Try.underlying46 rfl HPS.out ?_)
        refine wpAny_all (rs := [4]) (by kernel_rfl) (by decide) ?_
        intro i hi
        simp only [List.mem_cons, List.not_mem_nil, or_false] at hi
        subst hi
        refine wpOp_want rfl (by rfl) (wp_load_wl 53 _ rfl b (off + k * 4) (by rfl) X _ hrg3 Try.underlying53 rfl Try.sizeWl ?_)
        refine wpAny_all (rs := [5]) (by kernel_rfl) (by decide) ?_
        intro i hi
        simp only [List.mem_cons, List.not_mem_nil, or_false] at hi
        subst hi
        refine wpOp_want rfl (by rfl) ?_
        unfold Oper.wp
        go_simp
        refine (HSX.out _).mono ?_
        rintro e w4 ⟨⟨r0, q0, r1, q1, rfl, o0, o1, hap⟩, hb4⟩
        refine wpAny_take (i := 6) (v := .tuple #[.slice r0 S.length q0, .slice r1 T.length q1]) rfl (by kernel_rfl) (by kernel_rfl) (by kernel_rfl) (fun _ _ _ h => h) (Or.inl ⟨by rfl, fun w => by go_simp⟩) ?_
        refine wpAny_take (i := 7) (v := .slice r0 S.length q0) rfl (by kernel_rfl) (by kernel_rfl) (by kernel_rfl) (fun _ _ _ h => h) (Or.inl ⟨by rfl, fun w => by go_simp⟩) ?_
        refine wpAny_take (i := 8) (v := .slice r1 T.length q1) rfl (by kernel_rfl) (by kernel_rfl) (by kernel_rfl) (fun _ _ _ h => h) (Or.inl ⟨by rfl, fun w => by go_simp⟩) ?_
        refine wpAny_tail 9 rfl (by kernel_rfl) ?_
        simp only [List.drop_succ_cons, List.drop_zero]
        go_wp2
        refine bodyPost_ret (v := .tuple #[.slice r0 S.length q0, .slice r1 T.length q1, .bool true]) (by simp [results, Try.results31, go_sem]) rfl ⟨⟨r0, q0, r1, q1, rfl, ownsRow_base o0 hB3.size, ownsRow_base o1 hB3.size, hap⟩, below_step hB3 hB3.size hb4⟩
      · refine wpOp_want rfl (by rfl) (wp_load_wl 53 _ rfl b (off + k * 4) (by rfl) X _ hrg3 Try.underlying53 rfl Try.sizeWl ?_)
        refine wpAny_all (rs := [0]) (by kernel_rfl) (by decide) ?_
        intro i hi
        simp only [List.mem_cons, List.not_mem_nil, or_false] at hi
        subst hi
        refine wpOp_want rfl (by rfl) (wp_load_row 46 _ rfl BP (by rfl) 46 C (0, 0) _ bP3 Try.underlying46 rfl HPS.out ?_)
        refine wpAny_all (rs := [5]) (by kernel_rfl) (by decide) ?_
        intro i hi
        simp only [List.mem_cons, List.not_mem_nil, or_false] at hi
        subst hi
        refine wpOp_want rfl (by rfl) ?_
        unfold Oper.wp
        go_simp
        refine (HSX.out _).mono ?_
        rintro e w4 ⟨⟨r0, q0, r1, q1, rfl, o0, o1, hap⟩, hb4⟩
        refine wpAny_take (i := 6) (v := .tuple #[.slice r0 S.length q0, .slice r1 T.length q1]) rfl (by kernel_rfl) (by kernel_rfl) (by kernel_rfl) (fun _ _ _ h => h) (Or.inl ⟨by rfl, fun w => by go_simp⟩) ?_
        refine wpAny_take (i := 7) (v := .slice r0 S.length q0) rfl (by kernel_rfl) (by kernel_rfl) (by kernel_rfl) (fun _ _ _ h => h) (Or.inl ⟨by rfl, fun w => by go_simp⟩) ?_
        refine wpAny_take (i := 8) (v := .slice r1 T.length q1) rfl (by kernel_rfl) (by kernel_rfl) (by kernel_rfl) (fun _ _ _ h => h) (Or.inl ⟨by rfl, fun w => by go_simp⟩) ?_
        refine wpAny_tail 9 rfl (by kernel_rfl) ?_
        simp only [List.drop_succ_cons, List.drop_zero]
        go_wp2
        refine bodyPost_ret (v := .tuple #[.slice r0 S.length q0, .slice r1 T.length q1, .bool true]) (by simp [results, Try.results31, go_sem]) rfl ⟨⟨r0, q0, r1, q1, rfl, ownsRow_base o0 hB3.size, ownsRow_base o1 hB3.size, hap⟩, below_step hB3 hB3.size hb4⟩
    · have hd2 : decide ((L.length : Int) ≤ (k : Int)) = true := by rw [decide_eq_true_eq]; omega
      have hk2 : ¬ (k : Int) < (L.length : Int) := by omega
      rw [decide_eq_true hn0, decide_eq_false hk2, Bool.and_false, if_neg (by decide), if_neg (by decide)]
      go_enter Try.func31, Try.ntmps31
      go_wp2_with (first
        | (refine wpList_alloc_zero rfl 46 rfl zeroC zero_plan ?_)
        | (refine wpList_store_new rfl 46 _ _ rfl _ zeroC C rfl rfl rfl HPS.out (by rw [HCS.out]; rfl) HP1.out ?_)
        | (refine wpList_load_row rfl 46 _ rfl w1.heap.size rfl 46 C (0, 0) _ (HeldB.new w1 _ _) Try.underlying46 rfl HPS.out ?_)
        | (go_at_call 40; refine (HRP.out _ hc).mono ?_; rintro e w1 ⟨rfl, hb1⟩)
        | (go_at_call 41; refine (HWA.out _).mono ?_; rintro e w2 ⟨ro, rc, rfl, hown, hb2⟩))
      have hB2 : Below w.heap.size w w2 := below_step hb1 hb1.size ((below_alloc w1 (.cells C 46)).trans (hb2.mono (by simp)))
      refine bodyPost_ret (v := .tuple #[.slice none 0 0, .slice none 0 0, .bool false]) (by simp [results, Try.results31, go_sem]) rfl ⟨⟨none, 0, none, 0, rfl, ⟨rfl, .inl ⟨rfl, rfl⟩⟩, ⟨rfl, .inl ⟨rfl, rfl⟩⟩, apart_nil _⟩, hB2⟩
  · have hd1 : decide (n < 0) = true := by rw [decide_eq_true_eq]; omega
    rw [decide_eq_false hn0, Bool.false_and, if_neg (by decide), if_neg (by decide)]
    go_enter Try.func31, Try.ntmps31
    go_wp2_with (first
      | (refine wpList_alloc_zero rfl 46 rfl zeroC zero_plan ?_)
      | (refine wpList_store_new rfl 46 _ _ rfl _ zeroC C rfl rfl rfl HPS.out (by rw [HCS.out]; rfl) HP1.out ?_)
      | (refine wpList_load_row rfl 46 _ rfl w1.heap.size rfl 46 C (0, 0) _ (HeldB.new w1 _ _) Try.underlying46 rfl HPS.out ?_)
      | (go_at_call 40; refine (HRP.out _ hc).mono ?_; rintro e w1 ⟨rfl, hb1⟩)
      | (go_at_call 41; refine (HWA.out _).mono ?_; rintro e w2 ⟨ro, rc, rfl, hown, hb2⟩))
    have hB2 : Below w.heap.size w w2 := below_step hb1 hb1.size ((below_alloc w1 (.cells C 46)).trans (hb2.mono (by simp)))
    refine bodyPost_ret (v := .tuple #[.slice none 0 0, .slice none 0 0, .bool false]) (by simp [results, Try.results31, go_sem]) rfl ⟨⟨none, 0, none, 0, rfl, ⟨rfl, .inl ⟨rfl, rfl⟩⟩, ⟨rfl, .inl ⟨rfl, rfl⟩⟩, apart_nil _⟩, hB2⟩

end Go.Proofs.Ytdipcemiepmanaa
