/-
  Merged texts: Ctn Cts.
-/
import Derived.Test.YtpgcpmfemcfoaaaTakQ
import Derived.Test.YtpgcpmfemcfoaaaNumsQ

/-
  Plans counted by their rooms: the program. (Walks.)
-/
namespace Go.Proofs.Ytpgcpmfemcfoaaa
open Go.RowKit Go.Shelf

/-- whether all plans of a size may be asked -/
def frOk (n m : Int) : Bool := l6B n 1 6 && l6B m 1 6 && decide (n * m ≤ 9)
theorem frOk_dims {n m : Int} (h : frOk n m = true) : ∃ a b : Nat, n = (a : Int) ∧ m = (b : Int) ∧ 1 ≤ a ∧ a ≤ 6 ∧ 1 ≤ b ∧ b ≤ 6 ∧ a * b ≤ 9 := by
  unfold frOk l6B at h
  simp only [Bool.and_eq_true, decide_eq_true_eq] at h
  obtain ⟨⟨h1, h2⟩, h3⟩ := h
  obtain ⟨a, rfl⟩ := Int.eq_ofNat_of_zero_le (show 0 ≤ n by omega)
  obtain ⟨b, rfl⟩ := Int.eq_ofNat_of_zero_le (show 0 ≤ m by omega)
  exact ⟨a, b, rfl, rfl, by omega, by omega, by omega, by omega, by exact_mod_cast h3⟩
def frC (n m : Int) : Array Value := if frOk n m = true then #[.int .i64 n, .int .i64 m] else #[.int .i64 0, .int .i64 0]
set_option maxRecDepth 100000 in
theorem readFrame_any (n m : Int) (w : World) : Calls Try.prog 50 #[.int .i64 n, .int .i64 m] w
    fun e w' => e = .returned (.tuple #[.agg (frC n m), .bool (frOk n m)]) ∧ Below w.heap.size w w' := by
  have hb := fun C => below_alloc w (.cells C 77)
  have fin0 : frOk n m = false → frC n m = #[.int .i64 0, .int .i64 0] := fun h => by unfold frC; rw [h]; rfl
  by_cases h0 : n < 1
  · have hno : frOk n m = false := by unfold frOk l6B; simp; omega
    have hd0 : decide (n < 1) = true := decide_eq_true h0
    rw [fin0 hno, hno]
    clear fin0 hno
    go_enter Try.func50, Try.ntmps50
    go_wp2
    refine bodyPost_ret (v := .tuple #[.agg #[.int .i64 0, .int .i64 0], .bool false]) (by simp [results, Try.results50, go_sem]) rfl ⟨rfl, ?_⟩
    exact hb _
  have hd0 : decide (n < 1) = false := decide_eq_false h0
  by_cases h1 : n > 6
  · have hno : frOk n m = false := by unfold frOk l6B; simp; omega
    have hd1 : decide (n > 6) = true := decide_eq_true h1
    rw [fin0 hno, hno]
    clear fin0 hno
    go_enter Try.func50, Try.ntmps50
    go_wp2
    refine bodyPost_ret (v := .tuple #[.agg #[.int .i64 0, .int .i64 0], .bool false]) (by simp [results, Try.results50, go_sem]) rfl ⟨rfl, ?_⟩
    exact hb _
  have hd1 : decide (n > 6) = false := decide_eq_false h1
  by_cases h2 : m < 1
  · have hno : frOk n m = false := by unfold frOk l6B; simp; omega
    have hd2 : decide (m < 1) = true := decide_eq_true h2
    rw [fin0 hno, hno]
    clear fin0 hno
    go_enter Try.func50, Try.ntmps50
    go_wp2
    refine bodyPost_ret (v := .tuple #[.agg #[.int .i64 0, .int .i64 0], .bool false]) (by simp [results, Try.results50, go_sem]) rfl ⟨rfl, ?_⟩
    exact hb _
  have hd2 : decide (m < 1) = false := decide_eq_false h2
  by_cases h3 : m > 6
  · have hno : frOk n m = false := by unfold frOk l6B; simp; omega
    have hd3 : decide (m > 6) = true := decide_eq_true h3
    rw [fin0 hno, hno]
    clear fin0 hno
    go_enter Try.func50, Try.ntmps50
    go_wp2
    refine bodyPost_ret (v := .tuple #[.agg #[.int .i64 0, .int .i64 0], .bool false]) (by simp [results, Try.results50, go_sem]) rfl ⟨rfl, ?_⟩
    exact hb _
  have hd3 : decide (m > 6) = false := decide_eq_false h3
  obtain ⟨a, rfl⟩ := Int.eq_ofNat_of_zero_le (show 0 ≤ n by omega)
  obtain ⟨b, rfl⟩ := Int.eq_ofNat_of_zero_le (show 0 ≤ m by omega)
  have ha : a ≤ 6 := by omega
  have hb' : b ≤ 6 := by omega
  have hm36 : a * b ≤ 36 := Nat.mul_le_mul ha hb'
  have hmc : ((a * b : Nat) : Int) = (a : Int) * (b : Int) := Int.natCast_mul _ _
  by_cases h9 : a * b ≤ 9
  · have hyes : frOk (a : Int) (b : Int) = true := by unfold frOk l6B; simp; omega
    have fin1 : frC (a : Int) (b : Int) = #[.int .i64 (a : Int), .int .i64 (b : Int)] := by unfold frC; rw [hyes]; rfl
    have hd9 : decide ((a : Int) * (b : Int) > 9) = false := by rw [decide_eq_false_iff_not]; omega
    rw [fin1, hyes]
    clear fin0 fin1 hyes hmc h9
    go_enter Try.func50, Try.ntmps50
    go_wp2
    refine bodyPost_ret (v := .tuple #[.agg #[.int .i64 (a : Int), .int .i64 (b : Int)], .bool true]) (by simp [results, Try.results50, go_sem]) rfl ⟨rfl, ?_⟩
    exact hb _
  · have hno : frOk (a : Int) (b : Int) = false := by unfold frOk l6B; simp; omega
    have hd9 : decide ((a : Int) * (b : Int) > 9) = true := by rw [decide_eq_true_eq]; omega
    rw [fin0 hno, hno]
    clear fin0 hno hmc h9
    go_enter Try.func50, Try.ntmps50
    go_wp2
    refine bodyPost_ret (v := .tuple #[.agg #[.int .i64 0, .int .i64 0], .bool false]) (by simp [results, Try.results50, go_sem]) rfl ⟨rfl, ?_⟩
    exact hb _

set_option maxRecDepth 100000 in
theorem cellsF_any (h wd : Nat) (hm : h * wd ≤ 36) (w : World) : Calls Try.prog 80 #[.agg #[.int .i64 (h : Int), .int .i64 (wd : Int)]] w fun e w' => e = .returned (.int .i64 ((h * wd : Nat) : Int)) ∧ Below w.heap.size w w' := by
  have hb := below_alloc w (.cells #[.int .i64 (h : Int), .int .i64 (wd : Int)] 77)
  by_cases h0 : wd = 0
  · subst h0
    go_enter Try.func80, Try.ntmps80
    go_wp2
    go_ret
    exact ⟨by simp, hb⟩
  · have hh : h ≤ 36 := Nat.le_trans (Nat.le_mul_of_pos_right h (by omega)) hm
    have hmc : ((h * wd : Nat) : Int) = (h : Int) * (wd : Int) := Int.natCast_mul _ _
    by_cases h1 : h = 0
    · subst h1
      go_enter Try.func80, Try.ntmps80
      go_wp2
      go_ret
      exact ⟨by simp, hb⟩
    · have hw : wd ≤ 36 := Nat.le_trans (Nat.le_mul_of_pos_left wd (by omega)) hm
      have HMC := Lib.hid hmc
      clear hmc
      go_enter Try.func80, Try.ntmps80
      go_wp2
      go_ret
      exact ⟨by rw [HMC.out]; rfl, hb⟩

/-- how many plans as asked have so many rooms -/
def cntQ (q : List ByteArray → Bool) (h wd r : Nat) : Nat := (allZ h wd).countP fun y => q (txtZ h wd y.2) && decide (y.1 = r)
def cntL (q : List ByteArray → Bool) (h wd : Nat) : List Nat := (List.range (h * wd + 1)).map (cntQ q h wd)
theorem cntL_len (q : List ByteArray → Bool) (h wd : Nat) : (cntL q h wd).length = h * wd + 1 := by simp [cntL]
theorem asked_count (q : List ByteArray → Bool) (h wd r : Nat) : ((asked q h wd (allZ h wd)).map (·.1)).count r = cntQ q h wd r := by
  unfold asked cntQ
  rw [List.count_eq_countP, List.countP_map, List.countP_filter]
  refine List.countP_congr fun y _ => ?_
  simp only [Function.comp_apply, Bool.and_eq_true, beq_iff_eq, decide_eq_true_eq]
  constructor
  · rintro ⟨a, b⟩; exact ⟨b, a⟩
  · rintro ⟨a, b⟩; exact ⟨b, a⟩
/-- the first numbers filled in -/
def fillS (f : Nat → Nat) (n k : Nat) : List Nat := (List.range n).map fun r => if r < k then f r else 0
theorem fillS_len (f : Nat → Nat) (n k : Nat) : (fillS f n k).length = n := by simp [fillS]
theorem fillS_zero (f : Nat → Nat) (n : Nat) : fillS f n 0 = List.replicate n 0 := by
  unfold fillS
  apply List.ext_getElem
  · simp
  · intro i h1 h2; simp
theorem fillS_all (f : Nat → Nat) (n : Nat) : fillS f n n = (List.range n).map f := by
  unfold fillS
  refine List.map_congr_left fun r hr => ?_
  rw [if_pos (List.mem_range.1 hr)]
theorem fillS_put (f : Nat → Nat) {n k : Nat} (_hk : k < n) : (fillS f n k).set k (f k) = fillS f n (k + 1) := by
  unfold fillS
  apply List.ext_getElem
  · simp
  · intro i h1 h2
    rw [List.getElem_set]
    by_cases e : k = i
    · subst e; simp
    · rw [if_neg e]
      simp only [List.getElem_map, List.getElem_range]
      by_cases q : i < k
      · rw [if_pos q, if_pos (by omega)]
      · rw [if_neg q, if_neg (by omega)]
theorem leaves_few {q : List ByteArray → Bool} {h wd : Nat} (d1 : 1 ≤ h) (d6 : h ≤ 6) (e1 : 1 ≤ wd) (e6 : wd ≤ 6) (h9 : h * wd ≤ 9) : (∀ x ∈ asked q h wd (allZ h wd), x.1 ≤ 9) ∧ (asked q h wd (allZ h wd)).length ≤ 1000000 :=
  ⟨fun _ hx => (leaf d1 d6 e1 e6 h9 (List.mem_filter.1 hx).1).few, Nat.le_trans (List.length_filter_le _ _) (allZ_few d6 e6 h9)⟩

set_option maxRecDepth 100000 in
theorem askAll_any (C : Array Value) (w : World) : Calls Try.prog 44 #[.agg C] w fun e w' => e = .returned (.bool true) ∧ Below w.heap.size w w' := by
  have hb := below_alloc w (.cells C 47)
  go_enter Try.func44, Try.ntmps44
  go_wp2
  go_ret
  exact ⟨rfl, by first | exact hb | exact Below.refl _ _⟩

/-- the numbers told-/
def ctR (q : List ByteArray → Bool) (n m : Int) : List Int := if frOk n m = true then intsL (cntL q n.toNat m.toNat) else []
theorem frOk_of {h wd : Nat} (d1 : 1 ≤ h) (d6 : h ≤ 6) (e1 : 1 ≤ wd) (e6 : wd ≤ 6) (h9 : h * wd ≤ 9) : frOk (h : Int) (wd : Int) = true ∧ frC (h : Int) (wd : Int) = #[.int .i64 (h : Int), .int .i64 (wd : Int)] := by
  have hmc : ((h * wd : Nat) : Int) = (h : Int) * (wd : Int) := Int.natCast_mul _ _
  have : frOk (h : Int) (wd : Int) = true := by unfold frOk l6B; simp; omega
  exact ⟨this, by unfold frC; rw [this]; rfl⟩

set_option maxRecDepth 100000 in
set_option maxHeartbeats 8000000 in
theorem countByA_any {h wd : Nat} (d1 : 1 ≤ h) (d6 : h ≤ 6) (e1 : 1 ≤ wd) (e6 : wd ≤ 6) (h9 : h * wd ≤ 9) (w : World) :
    Calls Try.prog 43 #[.int .i64 (h : Int), .int .i64 (wd : Int), .func (.func 44) #[] #[]] w fun e w' => NumsRet w.heap.size (intsL (cntL (fun _ => true) h wd)) true e w' ∧ Below w.heap.size w w' := by
  obtain ⟨im, hmi, hmz, hm1, hm2⟩ := info_parts Try.infoNum
  have HRF := Lib.hid (fun w => readFrame_any (h : Int) (wd : Int) w)
  rw [(frOk_of d1 d6 e1 e6 h9).1, (frOk_of d1 d6 e1 e6 h9).2] at HRF
  have HPL := Lib.hid (fun w => plans_any h wd (.func (.func 44) #[] #[]) rfl w)
  have HTK := Lib.hid (fun (w : World) (b : Nat) (L0 : List Nat) (Bf Bq : Nat) (hm : CntG 3 litN domN w b L0) (hBf : HeldB w Bf 77 #[.int .i64 (h : Int), .int .i64 (wd : Int)]) (hBq : HeldB w Bq 70 #[.func (.func 44) #[] #[]]) =>
    callsIn_wide.1 (takeInt_in 40 h wd (by omega) (asked (fun _ => true) h wd (allZ h wd)) (leaves_few d1 d6 e1 e6 h9).1 (leaves_few d1 d6 e1 e6 h9).2 Bf Bq w (fun W => HeldB W Bf 77 #[.int .i64 (h : Int), .int .i64 (wd : Int)] ∧ HeldB W Bq 70 #[.func (.func 44) #[] #[]])
      ((heldB_stays hBf.lt _ _).and (heldB_stays hBq.lt _ _)) (fun l J W1 hJ hJI hY hj => plansItA_in d6 e6 (fun _ => true) Bf Bq 39 l (by omega) J W1 (fun y hy s w _ => askAll_any _ w) hJ hJI hY hj) b L0 hm ⟨hBf, hBq⟩))
  have HCL := Lib.hid (fun w => cellsF_any h wd (by omega) w)
  have HAC := Lib.hid (fun r => asked_count (fun _ => true) h wd r)
  have HFE := Lib.hid (show fillS (cntQ (fun _ => true) h wd) (h * wd + 1) (h * wd + 1) = cntL (fun _ => true) h wd from fillS_all _ _)
  have HFP := Lib.hid (fun k (hk : k < h * wd + 1) => fillS_put (cntQ (fun _ => true) h wd) hk)
  have HFZ := Lib.hid (fillS_zero (cntQ (fun _ => true) h wd) (h * wd + 1))
  have HFL := Lib.hid (fun k => fillS_len (cntQ (fun _ => true) h wd) (h * wd + 1) k)
  have HLL := Lib.hid (intsL_len (cntL (fun _ => true) h wd))
  have HL2 := Lib.hid (cntL_len (fun _ => true) h wd)
  generalize (asked (fun _ => true) h wd (allZ h wd)).map (·.1) = M at *
  generalize cntL (fun _ => true) h wd = T at *
  generalize cntQ (fun _ => true) h wd = cq at *
  generalize hN : h * wd = N at *
  have hN9 : N ≤ 9 := by omega
  have HNN := Lib.hid hN
  clear hN
  have hmm := @run_makeMap Try.prog
  go_enter Try.func43, Try.ntmps43
  go_wp2_with (first
    | (go_at_call 50; refine (HRF.out _).mono ?_; rintro e w1 ⟨rfl, hb1⟩)
    | (go_at_call 78; refine (HPL.out _).mono ?_; rintro e w2 ⟨B, rfl, hBB, hBf, hBq, hb2⟩))
  rw [World.size_alloc, World.size_alloc] at hBB
  subst hBB
  have hmp : CntG 3 litN domN w2 (w1.heap.size + 1) [] := by
    have := (CntG.made (K := 3) (lit := litN) (dom := domN) (w1.alloc (.cells #[.int .i64 (h : Int), .int .i64 (wd : Int)] 77))).below hb2
    rwa [World.size_alloc] at this
  have hF0 := ((HeldB.new w1 77 #[.int .i64 (h : Int), .int .i64 (wd : Int)]).alloc (.map #[] 0)).below hb2
  have hB2 := below_step (((hb1.alloc hb1.size (.cells #[.int .i64 (h : Int), .int .i64 (wd : Int)] 77))).alloc (by have := hb1.size; simp; omega) (.map #[] 0)) (by have := hb1.size; simp; omega) hb2
  have hs1 := hb1.size
  have hl2 := hmp.lt
  refine (HTK.out w2 (w1.heap.size + 1) [] (w1.heap.size + 1 + 1) (w1.heap.size + 1 + 1 + 1) hmp hBf hBq).mono ?_
  rintro e w3 ⟨rfl, hm3, hg3⟩
  have hF3 := hF0.kept hg3 (by simp only [ne_eq, Option.some.injEq]; omega)
  have hB3 : Below w.heap.size w w3 := hB2.grown hg3 (Nat.le_trans hs1 (by omega)) (fun k hk => by simp only [Option.some.injEq] at hk; omega)
  have k0 := hF3.cell 0
  have k1 := hF3.cell 1
  rw [show (#[.int .i64 (h : Int), .int .i64 (wd : Int)] : Array Value)[0]? = some (.int .i64 (h : Int)) from rfl] at k0
  rw [show (#[.int .i64 (h : Int), .int .i64 (wd : Int)] : Array Value)[1]? = some (.int .i64 (wd : Int)) from rfl] at k1
  have hlm3 := hm3.lt
  clear hb1 hb2 hg3 hBf hBq hmp hF0 hB2 HTK HPL HRF hmm
  go_wp2_with (first
    | (go_at_call 80; refine (HCL.out _).mono ?_; rintro e w4 ⟨rfl, hb4⟩)
    | (at_make; refine wpList_make_full _ rfl _ _ 32 rfl w4.heap.size 3 im (.int .i64 0) 1 Try.underlying32 hmi hmz hm1 .i64 .i64 _ _ (N + 1) rfl rfl rfl rfl ?d2 ?d3 (Nat.le_refl _) ?_; rotate_left 2; intro w5 ho5 hg5))
  case d2 => rw [hm2]; omega
  case d3 => unfold maxLen; omega
  have hz := held_zeros ho5
  rw [← HFZ.out] at hz
  have hb5 : Below w4.heap.size w4 w5 := below_of_grownBy hg5 (Nat.le_refl _) (fun k hk => by cases hk)
  have hm5 := (hm3.below hb4).below hb5
  have hB4 := below_step hB3 hB3.size hb4
  have hB5 := below_step hB4 hB4.size hb5
  have hs4 := hb4.size
  have hs5 := hB4.size
  obtain ⟨G, hG⟩ : ∃ G, G = w4.heap.size := ⟨_, rfl⟩
  obtain ⟨bm, hbm⟩ : ∃ bm, bm = w1.heap.size + 1 := ⟨_, rfl⟩
  have hbG : bm < G := by omega
  have hwG : w.heap.size ≤ G := by omega
  rw [← hG] at hz ⊢
  rw [← hbm] at hm5 ⊢
  clear hG hbm ho5 hg5 hb5 hb4 hm3 hB3 hB4 hF3 k0 k1 hlm3 hs4 hs5 hs1 hl2
  go_loopw [33] (fun vr wr => ∃ k : Nat, k ≤ N + 1 ∧ vr = .int .i64 (k : Int) ∧ HeldB wr G 3 (setsV (fillS cq (N + 1) k)) ∧ CntG 3 litN domN wr bm M ∧ Below w.heap.size w wr) (fun vr _ => N + 1 - (intOf vr).toNat)
  case atStart => exact ⟨0, Nat.zero_le _, rfl, hz, hm5, hB5⟩
  case round =>
    clear hz hm5 hB5
    obtain ⟨k, hk, rfl, hz, hm5, hB5⟩ := hrel
    by_cases hlt : k < N + 1
    · have hlt' : decide ((k : Int) < (N : Int) + 1) = true := by rw [decide_eq_true_eq]; omega
      have hltI : (k : Int) < (N : Int) + 1 := by omega
      have hlk : (Instr.lookup 117 (.map (some bm)) (.int .i64 (k : Int)) false).run Try.prog wr = .ok (.int .i64 (M.count k : Nat)) wr := hm5.look key_nat (by unfold domN; omega)
      rw [HAC.out k] at hlk
      have fz := hz.frozen k
      have hz2 := (hz.set k (.int .i64 ((cq k : Nat) : Int))).eq ((setsV_put _ k (cq k)).trans (by rw [HFP.out k hlt]))
      have hm6 : CntG 3 litN domN (wr.setCell ⟨G, k, none⟩ (.int .i64 ((cq k : Nat) : Int))) bm M := hm5.same (Below.heap_setCell wr ⟨G, k, none⟩ _ bm (by show bm ≠ G; omega))
      have hB6 : Below w.heap.size w (wr.setCell ⟨G, k, none⟩ (.int .i64 ((cq k : Nat) : Int))) := hB5.setCell (p := ⟨G, k, none⟩) hwG _
      have hLk := HFL.out k
      have k0 := hz.cell k
      rw [setsV_at (by rw [hLk]; exact hlt)] at k0
      clear hm5 hB5 hz hLk
      generalize (fillS cq (N + 1) k).getD k 0 = old at *
      go_wp2
      go_roundw
      case rel => exact ⟨k + 1, by omega, by go_num, hz2, hm6, hB6⟩
      case measure => simp [intOf]; omega
    · obtain rfl : k = N + 1 := by omega
      have hlt' : decide (((N + 1 : Nat) : Int) < (N : Int) + 1) = false := by rw [decide_eq_false_iff_not]; omega
      rw [HFE.out] at hz
      have hr := owns_sets hz hwG (by rw [HL2.out]; unfold maxLen; omega)
      rw [HL2.out] at hr
      go_wp2
      go_ret2
      refine ⟨⟨some ⟨G, 0, none⟩, N + 1, ?_, ?_⟩, hB5⟩
      · rw [HLL.out, HL2.out]; rfl
      · rw [HLL.out, HL2.out]; exact hr

set_option maxRecDepth 100000 in
theorem implCountRooms_any (n m : Int) (w : World) : Calls Try.prog 14 #[.int .i64 n, .int .i64 m] w fun e w' => NumsRet w.heap.size (ctR (fun _ => true) n m) (frOk n m) e w' ∧ Below w.heap.size w w' := by
  cases h : frOk n m
  · have HRF := Lib.hid (fun w => readFrame_any n m w)
    have e0 : ctR (fun _ => true) n m = [] := by unfold ctR; rw [h]; rfl
    have e1 : frC n m = #[.int .i64 0, .int .i64 0] := by unfold frC; rw [h]; rfl
    rw [h, e1] at HRF
    rw [e0]
    have HNO : ∀ w, Calls Try.prog 43 #[.int .i64 n, .int .i64 m, .func (.func 44) #[] #[]] w fun e w' => e = .returned (.tuple #[.slice none 0 0, .bool false]) ∧ Below w.heap.size w w' := fun w => by
      clear h e0 e1
      go_enter Try.func43, Try.ntmps43
      go_wp2_with (go_at_call 50; refine (HRF.out _).mono ?_; rintro e w1 ⟨rfl, hb1⟩)
      go_ret2
      exact ⟨rfl, hb1.alloc hb1.size _⟩
    have HN := Lib.hid HNO
    clear HNO h e0 e1 HRF
    go_enter Try.func14, Try.ntmps14
    go_wp2_with (go_at_call 43; refine (HN.out _).mono ?_; rintro e w1 ⟨rfl, hb1⟩)
    go_ret2
    exact ⟨⟨none, 0, rfl, by simp, .inl ⟨rfl, rfl⟩⟩, hb1⟩
  · obtain ⟨a, b, rfl, rfl, a1, a6, b1, b6, h9⟩ := frOk_dims h
    have e0 : ctR (fun _ => true) (a : Int) (b : Int) = intsL (cntL (fun _ => true) a b) := by unfold ctR; rw [h]; rfl
    rw [e0]
    have HN := Lib.hid (fun w => countByA_any a1 a6 b1 b6 h9 w)
    clear h e0 h9 a1 a6 b1 b6
    generalize intsL (cntL (fun _ => true) a b) = T at *
    go_enter Try.func14, Try.ntmps14
    go_wp2_with (go_at_call 43; refine (HN.out _).mono ?_; rintro e w1 ⟨⟨ro, rc, rfl, hr⟩, hb1⟩)
    go_ret2
    exact ⟨⟨ro, rc, rfl, hr⟩, hb1⟩

end Go.Proofs.Ytpgcpmfemcfoaaa

/-
  Plans counted by their rooms: the model. (Walks.)
-/
namespace Go.Proofs.Ytpgcpmfemcfoaaa
open Go.RowKit

set_option maxRecDepth 100000 in
theorem l10Given_any (n m : Int) (w : World) : Calls Try.prog 45 #[.int .i64 n, .int .i64 m] w fun e w' => e = .returned (.bool (frOk n m)) ∧ w' = w := by
  have HL := Lib.hid (fun a w => l6In_any a 1 6 w)
  unfold frOk
  cases h1 : l6B n 1 6
  · have H1 := Lib.hid (fun w => by have := HL.out n w; rw [h1] at this; exact this)
    rw [Bool.false_and, Bool.false_and]
    clear HL h1
    go_enter Try.func45, Try.ntmps45
    go_wp2_with (go_at_call 55; refine (H1.out _).mono ?_; rintro e w1 ⟨rfl, rfl⟩)
    go_ret
    exact ⟨rfl, rfl⟩
  · cases h2 : l6B m 1 6
    · by_cases hnm : n = m
      · subst hnm; rw [h1] at h2; cases h2
      have H1 := Lib.hid (fun w => by have := HL.out n w; rw [h1] at this; exact this)
      have H2 := Lib.hid (fun w => by have := HL.out m w; rw [h2] at this; exact this)
      rw [Bool.and_false, Bool.false_and]
      clear HL h1 h2
      go_enter Try.func45, Try.ntmps45
      go_wp2_with fail
      refine (H1.out _).mono ?_
      rintro e w1 ⟨rfl, rfl⟩
      go_wp2_with fail
      refine (H2.out _).mono ?_
      rintro e w1 ⟨rfl, rfl⟩
      go_wp2
      go_ret
      exact ⟨rfl, rfl⟩
    · have H1 := Lib.hid (fun w => by have := HL.out n w; rw [h1] at this; exact this)
      have H2 := Lib.hid (fun w => by have := HL.out m w; rw [h2] at this; exact this)
      unfold l6B at h1 h2
      simp [decide_eq_true_eq] at h1 h2
      obtain ⟨a, rfl⟩ := Int.eq_ofNat_of_zero_le (show 0 ≤ n by omega)
      obtain ⟨b, rfl⟩ := Int.eq_ofNat_of_zero_le (show 0 ≤ m by omega)
      have ha : a ≤ 6 := by omega
      have hb' : b ≤ 6 := by omega
      have hm36 : a * b ≤ 36 := Nat.mul_le_mul ha hb'
      rw [Bool.true_and, Bool.true_and]
      have HD := Lib.hid (show decide ((a : Int) * (b : Int) ≤ 9) = decide ((a : Int) * (b : Int) ≤ 9) from rfl)
      clear HL h1 h2
      go_enter Try.func45, Try.ntmps45
      go_wp2_with fail
      refine (H1.out _).mono ?_
      rintro e w1 ⟨rfl, rfl⟩
      go_wp2_with fail
      refine (H2.out _).mono ?_
      rintro e w1 ⟨rfl, rfl⟩
      go_wp2
      go_ret
      exact ⟨rfl, rfl⟩

/-- plans counted along a list of texts -/
def cntT (q : List ByteArray → Bool) (L : List (List ByteArray)) (r : Nat) : Nat := L.countP fun p => q p && decide (gridR p = r)
def cntTL (q : List ByteArray → Bool) (n : Nat) (L : List (List ByteArray)) : List Nat := (List.range n).map (cntT q L)
theorem cntTL_len (q : List ByteArray → Bool) (n : Nat) (L : List (List ByteArray)) : (cntTL q n L).length = n := by simp [cntTL]
theorem cntTL_at {q : List ByteArray → Bool} {n : Nat} (L : List (List ByteArray)) {r : Nat} (h : r < n) : (cntTL q n L).getD r 0 = cntT q L r := by simp [cntTL, h]
theorem cntTL_nil (q : List ByteArray → Bool) (n : Nat) : cntTL q n [] = List.replicate n 0 := by
  unfold cntTL cntT
  apply List.ext_getElem
  · simp
  · intro i h1 h2; simp
theorem cntT_snoc (q : List ByteArray → Bool) (L : List (List ByteArray)) (p : List ByteArray) (r : Nat) : cntT q (L ++ [p]) r = cntT q L r + if (q p && decide (gridR p = r)) = true then 1 else 0 := by
  unfold cntT
  rw [List.countP_append, List.countP_singleton]
theorem cntTL_no {q : List ByteArray → Bool} (n : Nat) (L : List (List ByteArray)) {p : List ByteArray} (hq : q p = false) : cntTL q n (L ++ [p]) = cntTL q n L := by
  unfold cntTL
  refine List.map_congr_left fun r _ => ?_
  rw [cntT_snoc, hq]; simp
theorem cntTL_put {q : List ByteArray → Bool} {n : Nat} (L : List (List ByteArray)) {p : List ByteArray} (hq : q p = true) : (cntTL q n L).set (gridR p) (cntT q L (gridR p) + 1) = cntTL q n (L ++ [p]) := by
  unfold cntTL
  apply List.ext_getElem
  · simp
  · intro i h1 h2
    rw [List.getElem_set]
    simp only [List.getElem_map, List.getElem_range]
    rw [cntT_snoc, hq]
    by_cases e : gridR p = i
    · subst e; simp
    · rw [if_neg e]; simp [e]
theorem cntT_le (q : List ByteArray → Bool) (L : List (List ByteArray)) (r : Nat) : cntT q L r ≤ L.length := List.countP_le_length
theorem cntQ_texts {q : List ByteArray → Bool} {h wd : Nat} (d1 : 1 ≤ h) (d6 : h ≤ 6) (e1 : 1 ≤ wd) (e6 : wd ≤ 6) (h9 : h * wd ≤ 9) : cntTL q (h * wd + 1) (lstT h wd (allZ h wd)) = cntL q h wd := by
  unfold cntTL cntL
  refine List.map_congr_left fun r _ => ?_
  unfold cntT cntQ lstT
  rw [List.countP_map]
  refine List.countP_congr fun y hy => ?_
  have := (leaf d1 d6 e1 e6 h9 hy).rooms
  simp only [Function.comp_apply]
  rw [this]
theorem leaf_rooms {h wd : Nat} (d1 : 1 ≤ h) (d6 : h ≤ 6) (e1 : 1 ≤ wd) (e6 : wd ≤ 6) (h9 : h * wd ≤ 9) {i : Nat} (hi : i < (lstT h wd (allZ h wd)).length) : gridR ((lstT h wd (allZ h wd)).getD i []) ≤ h * wd := by
  have : (lstT h wd (allZ h wd)).getD i [] ∈ lstT h wd (allZ h wd) := by simp [hi]
  unfold lstT at this ⊢
  obtain ⟨y, hy, e⟩ := List.mem_map.1 this
  rw [← e, (leaf d1 d6 e1 e6 h9 hy).rooms]
  have := (allZ_full hy).1.num
  omega
/-- a list of all plans stays where a number elsewhere is stored -/
theorem AllAt.put {w : World} {g : Nat} {us : List Value} {h wd G k : Nat} {S : Array Value} (A : AllAt w g us h wd) (hG : HeldB w G 3 S) (hne : g ≠ G) (v : Value) : AllAt (w.setCell ⟨G, k, none⟩ v) g us h wd := by
  refine ⟨fun i u hu => ?_, A.plans.kept fun b cur hb => ?_⟩
  · obtain ⟨b, off, e, hc⟩ := A.cells i u hu
    cases e
    exact ⟨g, 0, rfl, by rw [← hc]; exact World.cell?_setCell_other _ _ _ _ (by intro e; cases e; exact hne rfl)⟩
  · refine Below.heap_setCell w ⟨G, k, none⟩ v b (fun e => ?_)
    simp only at e
    subst e
    rw [show w.heap[b]? = _ from hG] at hb
    simp at hb

end Go.Proofs.Ytpgcpmfemcfoaaa
