/-
  Plain plans of so many rooms, and their permutations: the program. (Walks.)
-/
import Derived.Test.YtpgcpmfemcfoaaaCtnO
import Derived.Test.YtpgcpmfemcfoaaaSevRO

namespace Go.Proofs.Ytpgcpmfemcfoaaa
open Go.RowKit Go.Shelf

theorem rooms_pos {p : List ByteArray} (h : planB p = true) : 1 ≤ gridR p := by
  have g := (planP_of h).grid
  have := gridG_lt (p := p) (i := 0) (j := 0) (by have := g.h1; omega) (by have := g.w1; omega)
  omega
/-- a plan's permutation is one -/
theorem permL_isP {p : List ByteArray} (h : plainB p = true) (h7 : gridR p ≤ 7) : isP (intsL (permL p)) = true := by
  have hr := rooms_pos (plainB_plan h)
  have L1 := first_lin h
  have L2 := second_lin h
  have e : permL p = permQ (firstQ (pL p)) (secondQ (pL p)) (gridR p) := by unfold permL; rw [oR_yes h, oF_yes h]
  have hl : (intsL (permL p)).length = gridR p := by rw [intsL_len, permL_len, oR_yes h]
  refine isP_mk ⟨by rw [hl]; exact h7, fun x hx => ?_, ?_⟩ (by rw [hl]; exact hr)
  · rw [hl]
    rw [e] at hx
    unfold intsL permQ at hx
    rw [List.map_map, List.mem_map] at hx
    obtain ⟨i, hi, rfl⟩ := hx
    have hb := L2.back (List.mem_range.1 hi)
    have := L1.lt hb.2
    simp only [Function.comp_apply]
    omega
  · rw [e]
    unfold intsL permQ
    rw [List.map_map]
    unfold List.Nodup
    rw [List.pairwise_map]
    refine (List.pairwise_lt_range (n := gridR p)).imp_of_mem fun {i j} hi hj hlt he => ?_
    have hbi := L2.back (List.mem_range.1 hi)
    have hbj := L2.back (List.mem_range.1 hj)
    simp only [Function.comp_apply] at he
    have := L1.inj hbi.2 hbj.2 (by omega)
    have e2 := hbi.1
    rw [this, hbj.1] at e2
    omega
theorem numC_sevenC (L : List Int) (h : L.length = 7) : ∃ a b c d e f g : Int, numC L = #[.int .i64 a, .int .i64 b, .int .i64 c, .int .i64 d, .int .i64 e, .int .i64 f, .int .i64 g] := by
  match L, h with
  | [a, b, c, d, e, f, g], _ => exact ⟨a, b, c, d, e, f, g, rfl⟩

set_option maxRecDepth 100000 in
set_option maxHeartbeats 4000000 in
theorem permZ_any {h wd : Nat} {y : PZ} (L : Leaf h wd y) (hy : y ∈ allZ h wd) (hpl : plainB (txtZ h wd y.2) = true) (h7 : gridR (txtZ h wd y.2) ≤ 7) (w : World) :
    Calls Try.prog 54 #[.agg (planZ h wd y.1 y.2)] w fun e w' => e = .returned (.agg (numC (padL (intsL (permL (txtZ h wd y.2)))))) ∧ Below w.heap.size w w' := by
  have HOR := Lib.hid ((L.tells hy).order hpl)
  have HPM := Lib.hid (fun w => permP_any (txtZ h wd y.2) w)
  have hP := permL_isP hpl h7
  have HRD := Lib.hid (fun ao cap w hc => by have := read_any ao cap (intsL (permL (txtZ h wd y.2))) w (by rw [intsL_len, permL_len]; have := oR_le (txtZ h wd y.2); omega) hc; rw [orNil_yes hP, hP] at this; exact this)
  rw [intsL_len] at HRD
  have HSZ := Lib.hid (planZ_info h wd y.1 y.2)
  obtain ⟨a0, a1, a2, a3, a4, a5, a6, he⟩ := numC_sevenC (padL (intsL (permL (txtZ h wd y.2)))) (padL_len (isP_few hP).len)
  have HSP := Lib.hid (show (Try.prog.info? 85).map (·.size) = some (#[.int .i64 a0, .int .i64 a1, .int .i64 a2, .int .i64 a3, .int .i64 a4, .int .i64 a5, .int .i64 a6] : Array Value).size by rw [← he]; exact perm_size (padL_len (isP_few hP).len))
  have HLP := Lib.hid (padL_len (isP_few hP).len)
  have HS1 := Lib.hid (show (#[.int .i64 a0, .int .i64 a1, .int .i64 a2, .int .i64 a3, .int .i64 a4, .int .i64 a5, .int .i64 a6] : Array Value).all (·.oneCell') = true by rw [← he]; exact numC_one _)
  rw [he] at HRD
  have HE := Lib.hid he
  have bT := HeldB.new (w.alloc (.cells (planZ h wd y.1 y.2) 47)) 85 #[.int .i64 0, .int .i64 0, .int .i64 0, .int .i64 0, .int .i64 0, .int .i64 0, .int .i64 0]
  rw [World.size_alloc] at bT
  have bC := HeldB.new w 47 (planZ h wd y.1 y.2)
  have hb0 := below_alloc w (.cells (planZ h wd y.1 y.2) 47)
  clear he hP hpl h7
  generalize hLL : padL (intsL (permL (txtZ h wd y.2))) = PL at *
  clear hLL
  generalize permL (txtZ h wd y.2) = S at *
  generalize ordP (txtZ h wd y.2) = O at *
  generalize planZ h wd y.1 y.2 = C at *
  go_enter Try.func54, Try.ntmps54
  go_upto_region 2 with (first
    | (refine wpList_load_row rfl 47 _ rfl w.heap.size rfl 47 C (0, 0) _ (bC.alloc _) Try.underlying47 rfl HSZ.out ?_)
    | (go_at_call 35; refine (HOR.out _).mono ?_; rintro e w2 ⟨rfl, hb2⟩)
    | (go_at_call 31; refine (HPM.out _).mono ?_; rintro e w3 ⟨⟨g, hg, rfl, bG⟩, hb3⟩)
    | (go_at_call 86; refine (HRD.out _ _ _ (held_cells bG)).mono ?_; rintro e w4 ⟨rfl, hb4⟩; have bT4 := (((bT.below hb2).below hb3).below hb4).alloc (.cells #[.int .i64 a0, .int .i64 a1, .int .i64 a2, .int .i64 a3, .int .i64 a4, .int .i64 a5, .int .i64 a6] 85)))
  have hb00 : Below w.heap.size w ((w.alloc (.cells C 47)).alloc (.cells #[.int .i64 0, .int .i64 0, .int .i64 0, .int .i64 0, .int .i64 0, .int .i64 0, .int .i64 0] 85)) := hb0.alloc hb0.size _
  have hB2 := below_step hb00 hb00.size hb2
  have hB3 := below_step hB2 hB2.size hb3
  have hB4 := below_step hB3 hB3.size hb4
  have hB5 := hB4.alloc hB4.size (.cells #[.int .i64 a0, .int .i64 a1, .int .i64 a2, .int .i64 a3, .int .i64 a4, .int .i64 a5, .int .i64 a6] 85)
  clear HOR HPM HRD hb2 hb3 hb4 bG bC hb00 hB2 hB3 hB4 hb0
  go_wp2_with (refine wpList_store_row rfl 85 _ _ rfl (w.heap.size + 1) #[.int .i64 a0, .int .i64 a1, .int .i64 a2, .int .i64 a3, .int .i64 a4, .int .i64 a5, .int .i64 a6] rfl rfl 85 #[.int .i64 0, .int .i64 0, .int .i64 0, .int .i64 0, .int .i64 0, .int .i64 0, .int .i64 0] bT4 HSP.out rfl HS1.out ?_)
  refine bodyPost_ret (v := .agg (numC PL)) (results_perm Try.results54 rfl (by rw [HE.out]; exact bT4.setRow #[.int .i64 a0, .int .i64 a1, .int .i64 a2, .int .i64 a3, .int .i64 a4, .int .i64 a5, .int .i64 a6]) HLP.out) rfl ⟨rfl, ?_⟩
  exact below_setRowB hB5 (by omega) #[.int .i64 a0, .int .i64 a1, .int .i64 a2, .int .i64 a3, .int .i64 a4, .int .i64 a5, .int .i64 a6]

set_option maxRecDepth 100000 in
set_option maxHeartbeats 4000000 in
/-- whether a plan is plain and has so many rooms -/
theorem askPlain_any {h wd rooms : Nat} {y : PZ} (L : Leaf h wd y) (hy : y ∈ allZ h wd) (Br : Nat) (w : World) (hBr : HeldB w Br 3 #[.int .i64 (rooms : Int)]) :
    Calls Try.prog 85 #[.agg (planZ h wd y.1 y.2), .pointer (some ⟨Br, 0, none⟩)] w fun e w' => e = .returned (.bool (decide (gridR (txtZ h wd y.2) = rooms) && plainB (txtZ h wd y.2))) ∧ Below w.heap.size w w' := by
  have HPL := Lib.hid (L.tells hy).plain
  have c2 := planZ_2 h wd y.1 y.2
  rw [L.rooms]
  have HSZ := Lib.hid (planZ_info h wd y.1 y.2)
  have bC := HeldB.new w 47 (planZ h wd y.1 y.2)
  have hb0 := below_alloc w (.cells (planZ h wd y.1 y.2) 47)
  have cR := (hBr.alloc (.cells (planZ h wd y.1 y.2) 47)).cell 0
  rw [show (#[.int .i64 (rooms : Int)] : Array Value)[0]? = some (.int .i64 (rooms : Int)) from rfl] at cR
  generalize plainB (txtZ h wd y.2) = b at *
  generalize planZ h wd y.1 y.2 = C at *
  generalize y.1 = r at *
  by_cases hr : r = rooms
  · have hd : ((r : Int) == (rooms : Int)) = true := by rw [beq_iff_eq]; omega
    have HR := Lib.hid (show decide (r = rooms) = true from decide_eq_true hr)
    rw [HR.out, Bool.true_and]
    clear hr
    go_enter Try.func85, Try.ntmps85
    go_wp2_with (first
      | (refine wpList_load_row_guard (by rfl) 47 _ rfl w.heap.size rfl 47 C (0, 0) _ bC Try.underlying47 rfl HSZ.out ?_)
      | (go_at_call 33; refine (HPL.out _).mono ?_; rintro e w2 ⟨rfl, hb2⟩))
    go_ret
    exact ⟨rfl, below_step hb0 hb0.size hb2⟩
  · have hd : ((r : Int) == (rooms : Int)) = false := by rw [beq_eq_false_iff_ne]; omega
    have HR := Lib.hid (show decide (r = rooms) = false from decide_eq_false hr)
    rw [HR.out, Bool.false_and]
    clear hr HPL
    go_enter Try.func85, Try.ntmps85
    go_wp2
    go_ret
    exact ⟨rfl, hb0⟩
end Go.Proofs.Ytpgcpmfemcfoaaa
