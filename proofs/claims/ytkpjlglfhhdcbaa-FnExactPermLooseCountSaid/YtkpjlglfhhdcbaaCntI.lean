
/-
  The program tells all permutations, and counts those that are as asked. (Walks inside a fence.)
-/
import Derived.Test.YtkpjlglfhhdcbaaCntM
import Derived.Test.YtkpjlglfhhdcbaaLow
import Derived.Test.YtkpjlglfhhdcbaaSevK
import Derived.Test.YtkpjlglfhhdcbaaSevAA
namespace Go.Proofs.Ytkpjlglfhhdcbaa
open Go.RowKit Go.Shelf

attribute [local go_sem] Oper.semAt_some

theorem idxI_has (L : List Int) (v : Int) : decide (idxI L v ≥ 0) = decide (v ∈ L) := by
  unfold idxI
  by_cases h : v ∈ L
  · rw [if_pos h, decide_eq_true h, decide_eq_true]; omega
  · rw [if_neg h, decide_eq_false h]; rfl
set_option maxRecDepth 100000 in
theorem containsI_any (ao : Option Addr) (cap n : Nat) (L : List Int) (v : Int) (w : World) (hn : L.length = n) (hl : L.length ≤ maxLen) (hc : CellsAt w ao (L.map (Value.int .i64))) :
    Calls Try.prog 69 #[.slice ao n cap, .int .i64 v] w fun e w' => e = .returned (.bool (decide (v ∈ L))) ∧ w' = w := by
  have HI := Lib.hid (indexI_any ao cap n L v w hn hl hc)
  have HD := Lib.hid (idxI_has L v)
  clear hc
  generalize idxI L v = x at *
  generalize decide (v ∈ L) = b at *
  go_enter Try.func69, Try.ntmps69
  go_wp2_with (go_at_call 66; refine HI.out.mono ?_; rintro e w' ⟨rfl, rfl⟩)
  go_ret
  exact ⟨ret_bool HD.out, rfl⟩

theorem cells_take {W : World} {ao : Option Addr} {L : List Int} (h : CellsAt W ao (L.map (Value.int .i64))) (k : Nat) : CellsAt W ao ((L.take k).map (Value.int .i64)) := fun i u hu => h i u (by
  rw [List.map_take, List.getElem?_take] at hu
  split at hu
  · exact hu
  · cases hu)
theorem numC_seven (L : List Int) (h : L.length = 7) : ∃ a b c d e f g : Int, numC L = #[.int .i64 a, .int .i64 b, .int .i64 c, .int .i64 d, .int .i64 e, .int .i64 f, .int .i64 g] := by
  match L, h with
  | [a, b, c, d, e, f, g], _ => exact ⟨a, b, c, d, e, f, g, rfl⟩
def encP (x : List Int) : Array Value := #[.agg (numC (padL x))]
set_option maxRecDepth 100000 in
set_option maxHeartbeats 4000000 in
theorem fill_in {n : Nat} (hn7 : n ≤ 7) (l base : Nat) (J : List (List Int) → World → Prop) (hJ : ∀ s U W, J s U → Below base U W → J s W) (xs : List (List Int))
    (hY : ∀ m, 3 ≤ m → ∀ pre x rest W, xs = pre ++ x :: rest → base ≤ W.heap.size → J pre W → YieldAt Fence.wide m Try.prog l (encP x) W fun e W' => e = .returned (.bool true) ∧ J (pre ++ [x]) W' ∧ KeptFrom base W W') :
    ∀ (k : Nat) (p : List Int) (f : Nat) (pre rest : List (List Int)) (W : World), Beg n k p → k + 5 ≤ f → xs = pre ++ permK n k p ++ rest → base ≤ W.heap.size → J pre W →
      CallsIn Fence.wide f Try.prog 68 #[.agg (numC (padL p)), .int .i64 (n : Int), .func (.yield l) #[] #[]] W fun e W' => e = .returned (.bool true) ∧ J (pre ++ permK n k p) W' ∧ KeptFrom base W W'
  | 0, p, f, pre, rest, W, hB, hf, hx, hbase, hj => by
    have hF : ∀ k, Fence.wide.fn k := fun _ => trivial
    have hn1 : 1 ≤ f := by omega
    have hlow := hB.few.lo
    have hlen := hB.len
    have HM := Lib.hid (fun w => many_any hlow w)
    have HSZ := Lib.hid (perm_size (padL_len hlow.len))
    have HYY := Lib.hid (hY (f - 1) (by omega) pre p rest)
    have HX := Lib.hid (show xs = pre ++ p :: rest by rw [hx]; simp [permK])
    unfold encP at HYY
    have bP := HeldB.new W 35 (numC (padL p))
    have hb0 := below_alloc W (.cells (numC (padL p)) 35)
    have hpe : (p.length : Int) = (n : Int) := by omega
    rw [hpe] at HM
    generalize numC (padL p) = C at *
    have hW1 : (W.alloc (.cells C 35)).heap[W.heap.size]? = some (.cells C 35 (0, 0)) := bP
    have HJ := Lib.hid hj; have HB := Lib.hid hb0
    clear hx hj hY hb0
    refine callsIn_of_wp Try.func68 rfl trivial ?_ rfl
    simp only [Try.ntmps68, List.size_toArray, List.length_cons, List.length_nil, Nat.reduceAdd, Nat.reduceSub, Array.replicate_succ, Array.replicate_zero, List.push_toArray, List.append_toArray, List.nil_append, List.cons_append]
    gi_wp2_with (first
      | (refine wpListIn_load_r7 rfl 35 _ rfl W.heap.size rfl 35 C (0, 0) _ hW1 Try.underlying35 rfl HSZ.out ?_)
      | (refine wpListIn_load_r7 rfl 35 _ rfl W.heap.size rfl 35 C (0, 0) _ (bP.below hb1) Try.underlying35 rfl HSZ.out ?_)
      | (gi_at_call 62; refine (callsIn_wide.2 (HM.out _)).mono ?_; rintro e W1 ⟨rfl, hb1⟩; have hbB := below_step HB.out HB.out.size hb1; obtain ⟨fn, tmps, assign, body, hy, hR⟩ := HYY.out W1 HX.out (Nat.le_trans hbase hbB.size) (hJ _ _ _ HJ.out (hbB.mono hbase))))
    refine hR.mono ?_
    rintro e W3 ⟨rfl, hJ3, hk3⟩
    have hKF := (KeptFrom.of_below (B := base) hbB).trans hk3
    clear hy hR
    gi_wp2
    go_ret
    exact ⟨rfl, by simpa [permK] using hJ3, hKF⟩
  | k + 1, p, f, pre, rest, W, hB, hf, hx, hbase, hj => by
    have hF : ∀ k, Fence.wide.fn k := fun _ => trivial
    have hn1 : 1 ≤ f := by omega
    have hlen := hB.len
    have h7 : p.length < 7 := by omega
    have hlow : Low p := ⟨by omega, fun x hx => by have := hB.low x hx; omega⟩
    have HM := Lib.hid (fun w => many_any hlow w)
    have hsz : ∀ y : Int, ((padL p).set p.length y).length = 7 := fun y => by rw [List.length_set, padL_len hlow.len]
    have HSZ := Lib.hid (fun y => perm_size (hsz y))
    have bP := HeldB.new W 35 (numC ((padL p).set p.length 0))
    rw [pad_set_same h7] at bP
    have hb0 := below_alloc W (.cells (numC (padL p)) 35)
    have HSZ0 := Lib.hid (perm_size (padL_len hlow.len))
    have hW1 : (W.alloc (.cells (numC (padL p)) 35)).heap[W.heap.size]? = some (.cells (numC (padL p)) 35 (0, 0)) := bP
    have HP0 := Lib.hid (show padL p = (padL p).set p.length 0 from (pad_set_same h7).symm)
    have HJ := Lib.hid hj; have HB := Lib.hid hb0; have HX := Lib.hid hx; have HBG := Lib.hid hB
    have HIH := Lib.hid (fill_in hn7 l base J hJ xs hY k)
    have hlI : ((p.length : Int) == (n : Int)) = false := by rw [beq_eq_false_iff_ne]; omega
    clear hx hj hY hb0 hsz hB
    refine callsIn_of_wp Try.func68 rfl trivial ?_ rfl
    simp only [Try.ntmps68, List.size_toArray, List.length_cons, List.length_nil, Nat.reduceAdd, Nat.reduceSub, Array.replicate_succ, Array.replicate_zero, List.push_toArray, List.append_toArray, List.nil_append, List.cons_append]
    gi_wp2_with (first
      | (refine wpListIn_load_r7 rfl 35 _ rfl W.heap.size rfl 35 (numC (padL p)) (0, 0) _ hW1 Try.underlying35 rfl HSZ0.out ?_)
      | (gi_at_call 62; refine (callsIn_wide.2 (HM.out _)).mono ?_; rintro e W1 ⟨rfl, hb1⟩))
    have hbB := below_step HB.out HB.out.size hb1
    have hH1 := bP.below hb1
    rw [HP0.out] at hH1
    have hJ1 := hJ _ _ _ HJ.out (hbB.mono hbase)
    have hsB := hH1.lt
    have HJ1 := Lib.hid hJ1
    have HKB := Lib.hid (KeptFrom.of_below (B := base) hbB)
    have HLN := Lib.hid hlen
    have h7J : (p.length : Int) ≤ 7 := by omega
    have h7K : (p.length : Int) < 7 := by omega
    clear hbB hb1 bP hJ1 hW1 hlen
    gi_wp2
    gi_loopw [8] (fun vx wr => ∃ (m : Nat) (y : Int), m ≤ n ∧ vx = .int .i64 ((m : Int) + 1) ∧ HeldB wr W.heap.size 35 (numC ((padL p).set p.length y)) ∧ J (pre ++ permU n k p m) wr ∧ KeptFrom base W wr) (fun vx _ => n + 1 - (intOf vx).toNat)
    case atStart => exact ⟨0, 0, Nat.zero_le _, rfl, hH1, by rw [permU_zero, List.append_nil]; exact HJ1.out, HKB.out⟩
    case round =>
      clear hH1 HJ1 HKB
      obtain ⟨m, y, hm, rfl, hH, hj, hk⟩ := hrel
      have HJ := Lib.hid hj; have HK := Lib.hid hk
      clear hj hk
      by_cases hlt : m < n
      · have hle : (m : Int) + 1 ≤ (n : Int) := by omega
        have HC := Lib.hid (containsI_any (some ⟨W.heap.size, 0, none⟩) 7 p.length _ ((m : Int) + 1) wr (by rw [pad_set_take, List.length_map]) (by rw [pad_set_take, List.length_map]; unfold maxLen; omega) (cells_take hH.nums p.length))
        rw [pad_set_take] at HC
        by_cases hmem : (m : Int) ∈ p
        · rw [decide_eq_true (mem_up.2 hmem)] at HC
          have HS := Lib.hid (permU_skip (n := n) (k := k) hmem)
          clear hmem
          gi_wp2_with (gi_at_call 69; refine (callsIn_wide.2 HC.out).mono ?_; rintro e W2 ⟨rfl, rfl⟩)
          go_roundw
          case rel => exact ⟨m + 1, y, by omega, by go_num, hH, by rw [HS.out]; exact HJ.out, HK.out⟩
          case measure => simp [intOf]; omega
        · rw [decide_eq_false (fun h => hmem (mem_up.1 h))] at HC
          obtain ⟨r, hr⟩ := permK_part (k := k) hlt hmem
          have HIN := Lib.hid (fun w2 hb hj => HIH.out (p ++ [(m : Int)]) (f - 1) (pre ++ permU n k p m) (r ++ rest) w2 (HBG.out.step hlt hmem) (by omega) (by rw [HX.out, hr]; simp only [List.append_assoc]) hb hj)
          have HS := Lib.hid (permU_step (n := n) (k := k) hmem)
          have hcell := (hH.cell p.length).trans (numC_at (by rw [List.length_set, padL_len hlow.len]; exact h7))
          have hfz := hH.frozen p.length
          have hH2 := hH.set p.length (.int .i64 ((m : Int) + 1))
          rw [numC_set, List.set_set] at hH2
          have hb2 : Below base wr (wr.setCell ⟨W.heap.size, p.length, none⟩ (.int .i64 ((m : Int) + 1))) := (Below.refl base wr).setCell (p := ⟨W.heap.size, p.length, none⟩) hbase _
          have HJ2 := Lib.hid (hJ _ _ _ HJ.out hb2)
          have HK2 := Lib.hid (HK.out.cell W.heap.size p.length (.int .i64 ((m : Int) + 1)) (.inr (Nat.le_refl _)))
          have HE := Lib.hid (map_set_pad h7 (m : Int))
          have hlt2 := hH2.lt
          have HSE := HSZ.out ((m : Int) + 1)
          rw [HE.out] at hH2 HSE
          generalize ((padL p).set p.length y).getD p.length 0 = z at *
          generalize hCC : numC (padL (p ++ [(m : Int)])) = C at *
          have HCC := Lib.hid hCC; clear hCC
          clear hmem hr hH hb2
          gi_wp2_with (first
            | (gi_at_call 69; refine (callsIn_wide.2 HC.out).mono ?_; rintro e W2 ⟨rfl, rfl⟩)
            | (refine wpListIn_load_r7 rfl 35 _ rfl W.heap.size rfl 35 C (0, 0) _ hH2 Try.underlying35 rfl HSE ?_))
          refine (HIN.out _ (Nat.le_of_lt (Nat.lt_of_le_of_lt hbase hlt2)) HJ2.out).mono ?_
          rintro e W3 ⟨rfl, hJ3, hk3⟩
          have hH3 : HeldB W3 W.heap.size 35 C := (hk3.2 _ hbase hlt2).trans hH2
          have HK3 := Lib.hid (HK2.out.trans hk3)
          have HJ3 := Lib.hid hJ3
          clear hJ3 hk3 hH2
          gi_wp2
          go_roundw
          case rel => exact ⟨m + 1, (m : Int) + 1, by omega, by go_num, by rw [HE.out, HCC.out]; exact hH3, by rw [HS.out, ← List.append_assoc]; exact HJ3.out, HK3.out⟩
          case measure => simp [intOf]; omega
      · obtain rfl : m = n := by omega
        have hle : ¬ ((m : Int) + 1 ≤ (m : Int)) := by omega
        gi_wp2
        go_ret
        exact ⟨rfl, HJ.out, HK.out⟩

set_option maxRecDepth 100000 in
/-- all permutations of so many numbers -/
theorem allPerms_in {n : Nat} (hn7 : n ≤ 7) (B : Nat) (f : Nat) (hf : 13 ≤ f) (l : Nat) (J : List (List Int) → World → Prop) (W1 : World) (hB : HeldB W1 B 3 #[.int .i64 (n : Int)])
    (hJ : ∀ s U W, J s U → Below W1.heap.size U W → J s W)
    (hY : ∀ m, 3 ≤ m → ∀ pre x rest W, permK n n [] = pre ++ x :: rest → W1.heap.size ≤ W.heap.size → J pre W → YieldAt Fence.wide m Try.prog l (encP x) W fun e W' => e = .returned (.bool true) ∧ J (pre ++ [x]) W' ∧ KeptFrom W1.heap.size W W')
    (h0 : J [] W1) :
    CallsIn Fence.wide f Try.prog 67 #[.func (.yield l) #[] #[], .pointer (some ⟨B, 0, none⟩)] W1 fun e W' => (∃ v, e = .returned v) ∧ J (permK n n []) W' := by
  have hF : ∀ k, Fence.wide.fn k := fun _ => trivial
  have hn1 : 1 ≤ f := by omega
  have HF := Lib.hid (fill_in hn7 l W1.heap.size J hJ (permK n n []) hY n [] (f - 1) [] [] W1 (Beg.nil hn7) (by omega) (by simp) (Nat.le_refl _) h0)
  have hcn := hB.cell 0
  rw [show (#[.int .i64 (n : Int)] : Array Value)[0]? = some (.int .i64 (n : Int)) from rfl] at hcn
  rw [pad_nil, zero7, List.nil_append] at HF
  clear hJ hY h0
  refine callsIn_of_wp Try.func67 rfl trivial ?_ rfl
  simp only [Try.ntmps67, List.size_toArray, List.length_cons, List.length_nil, Nat.reduceAdd, Nat.reduceSub, Array.replicate_succ, Array.replicate_zero, List.push_toArray, List.append_toArray, List.nil_append, List.cons_append]
  gi_wp2_with (gi_at_call 68; refine HF.out.mono ?_; rintro e W2 ⟨rfl, hJ2, -⟩)
  go_end0
  exact ⟨⟨_, rfl⟩, hJ2⟩
set_option maxRecDepth 100000 in
theorem allPerms_any (n : Nat) (w : World) :
    Calls Try.prog 63 #[.int .i64 (n : Int)] w fun e w' => ∃ B, e = .returned (.func (.func 67) #[] #[.pointer (some ⟨B, 0, none⟩)]) ∧ B = w.heap.size ∧ HeldB w' B 3 #[.int .i64 (n : Int)] ∧ Below w.heap.size w w' := by
  have hH := HeldB.new w 3 #[.int .i64 (n : Int)]
  have hb := below_alloc w (.cells #[.int .i64 (n : Int)] 3)
  go_enter Try.func63, Try.ntmps63
  go_wp2
  go_ret
  exact ⟨_, rfl, rfl, hH, hb⟩

set_option maxRecDepth 100000 in
set_option maxHeartbeats 8000000 in
theorem countFair_in (f : Nat) (hf : 30 ≤ f) {n : Nat} (h1 : 1 ≤ n) (hn7 : n ≤ 7) (w : World) :
    CallsIn Fence.wide f Try.prog 54 #[.int .i64 (n : Int), .func (.func 43) #[] #[]] w fun e W' => e = .returned (.tuple #[.int .i64 ((cntK fairB (permK n n []) : Nat) : Int), .bool true]) ∧ Below w.heap.size w W' := by
  have hF : ∀ k, Fence.wide.fn k := fun _ => trivial
  have hn1 : 1 ≤ f := by omega
  have HL := Lib.hid (fun w => isLength_any (n : Int) w)
  rw [isN_yes (by omega) (by omega)] at HL
  have HAP := Lib.hid (fun w => allPerms_any n w)
  have bA := (HeldB.new w 47 #[.func (.func 43) #[] #[]]).alloc (.cells #[.int .i64 0] 3)
  have bM := HeldB.new (w.alloc (.cells #[.func (.func 43) #[] #[]] 47)) 3 #[.int .i64 0]
  simp only [World.size_alloc] at bM
  have hB0 : Below w.heap.size w ((w.alloc (.cells #[.func (.func 43) #[] #[]] 47)).alloc (.cells #[.int .i64 0] 3)) := ((Below.refl _ w).alloc (Nat.le_refl _) _).alloc (by simp) _
  refine callsIn_of_wp_marks Try.func54 rfl trivial ?_ rfl
  simp only [Try.ntmps54, List.size_toArray, List.length_cons, List.length_nil, Nat.reduceAdd, Nat.reduceSub, Array.replicate_succ, Array.replicate_zero, List.push_toArray, List.append_toArray, List.nil_append, List.cons_append]
  gi_wp2_with (first
    | (gi_at_call 56; refine (callsIn_wide.2 (HL.out _)).mono ?_; rintro e W9 ⟨rfl, rfl⟩)
    | (gi_at_call 63; refine (callsIn_wide.2 (HAP.out _)).mono ?_; rintro e W0 ⟨B, rfl, hBB, bN, hb1⟩))
  have hBB2 : B = w.heap.size + 1 + 1 := by rw [hBB]; simp
  clear hBB
  subst hBB2
  have bA := bA.below hb1
  have bM := bM.below hb1
  have hB0 := below_step hB0 hB0.size hb1
  have hlM := bM.lt
  have HXF := Lib.hid (fun (pre : List (List Int)) (x : List Int) (rest : List (List Int)) (h : permK n n [] = pre ++ x :: rest) => (permK_few n [] (Beg.nil hn7) x (by rw [h]; simp)).1)
  have HLE := Lib.hid (show (permK n n []).length ≤ 823543 from Nat.le_trans (permK_len n n []) (Nat.le_trans (Nat.pow_le_pow_left hn7 n) (Nat.pow_le_pow_right (by decide) hn7)))
  clear hb1 HAP HL
  generalize hXS : permK n n [] = xs at *
  have HXS := Lib.hid hXS; clear hXS
  refine rangeFunc_low rfl hn1 (gf := 67) (lb := #[.pointer (some ⟨w.heap.size + 1 + 1, 0, none⟩)]) rfl trivial (enters_of Try.func67 (by kernel_rfl) rfl)
    (encs := encP) (fun _ => rfl) xs
    (fun pre W => (HeldB W w.heap.size 47 #[.func (.func 43) #[] #[]] ∧ HeldB W (w.heap.size + 1) 3 #[.int .i64 ((cntK fairB pre : Nat) : Int)]) ∧ Below w.heap.size w W ∧ W0.heap.size ≤ W.heap.size)
    (fun s U W h hb => ⟨⟨(hb.block _ (by omega)).trans h.1.1, (hb.block _ hlM).trans h.1.2⟩, h.2.1.trans (hb.mono (by omega)), Nat.le_trans h.2.2 hb.size⟩)
    ⟨⟨bA, bM⟩, hB0, Nat.le_refl _⟩
    (fun l J W1 hb hJ hY hj => by
      rw [← HXS.out] at hY ⊢
      exact allPerms_in hn7 _ (f - 1) (by omega) l J W1 (bN.below hb) hJ hY hj)
    (fun x a' W => ∃ G, W0.heap.size ≤ G ∧ HeldB W G 35 (numC (padL x)) ∧ a' = { tmps := #[.int .i64 (n : Int), .func (.func 43) #[] #[], undef, .pointer (some ⟨w.heap.size, 0, none⟩), .int .i64 0, .bool false, .pointer (some ⟨w.heap.size + 1, 0, none⟩), .pointer (some ⟨G, 0, none⟩), .int .i64 (n : Int), .bool true, .bool false, .int .i64 (n : Int), .func (.func 67) #[] #[.pointer (some ⟨w.heap.size + 1 + 1, 0, none⟩)], .agg (numC (padL x)), undef, undef, undef, undef, undef, undef], defers := [] })
    (fun x a' W l o h h1 h2 h3 => by
      obtain ⟨G, g1, g2, g3⟩ := h
      obtain ⟨r, hr⟩ := h3
      refine ⟨G, g1, (World.putObj_heap_other (fun e => ?_)).trans g2, g3⟩
      subst e
      rw [show W.heap[G]? = _ from g2] at hr
      cases hr)
    ?assign ?body ?done
  case assign =>
    rintro m hm l pre x rest W K hx ⟨⟨bA1, bM1⟩, hB1, hgw⟩ hK
    have hfx := HXF.out pre x rest hx
    obtain ⟨a0, a1, a2, a3, a4, a5, a6, he⟩ := numC_seven (padL x) (padL_len hfx.len)
    have HE := Lib.hid he
    simp only [encP, he]
    gi_wp2
    refine hK _ _ (below_alloc _ _) ⟨W.heap.size, hgw, ?_, ?_⟩
    · rw [HE.out]; exact HeldB.new W _ _
    · rw [HE.out]
  case body =>
    rintro m hm l pre x rest a' W hx ⟨⟨bA1, bM1⟩, hB1, hgw⟩ ⟨G, hG, bX, rfl⟩
    have h1' : 1 ≤ m := by omega
    have hfx := HXF.out pre x rest hx
    have hle := HLE.out
    have hct := cntK_le fairB pre
    have hSN := cntK_snoc fairB pre x
    rw [hx, List.length_append, List.length_cons] at hle
    have hHELD : W.heap[G]? = some (.cells (numC (padL x)) 35 (0, 0)) := bX
    have HSZ := Lib.hid (perm_size (padL_len hfx.len))
    have HA := Lib.hid (fun w => isFair_any hfx w)
    have cA := bA1.cell 0
    have hlX := bM1.lt
    have hc8 : cntK fairB pre ≤ 823543 := by omega
    clear hx hle hct bX
    generalize cntK fairB pre = c at *
    generalize numC (padL x) = C at *
    cases hal : fairB x
    · rw [hal] at HA hSN
      have HSN := Lib.hid hSN
      clear hSN hal
      gi_wp2_with (first
        | (refine wpListIn_load_r7 rfl 35 _ rfl G rfl 35 C (0, 0) _ hHELD Try.underlying35 rfl HSZ.out ?_)
        | (refine ⟨trivial, ?_⟩; gi_at_call 43; refine (CallsIn.inRound l (callsIn_wide.2 (HA.out _))).mono ?_; rintro e w2 ⟨rfl, hb2⟩)
        | (gi_at_call 43; refine (CallsIn.inRound l (callsIn_wide.2 (HA.out _))).mono ?_; rintro e w2 ⟨rfl, hb2⟩))
      exact ⟨⟨⟨bA1.below hb2, by rw [show cntK fairB (pre ++ [x]) = c from HSN.out]; exact bM1.below hb2⟩, below_step hB1 hB1.size hb2, Nat.le_trans hgw hb2.size⟩, KeptFrom.of_below hb2⟩
    · rw [hal] at HA hSN
      have HSN := Lib.hid hSN
      clear hSN hal
      gi_wp2_with (first
        | (refine wpListIn_load_r7 rfl 35 _ rfl G rfl 35 C (0, 0) _ hHELD Try.underlying35 rfl HSZ.out ?_)
        | (refine ⟨trivial, ?_⟩; gi_at_call 43; refine (CallsIn.inRound l (callsIn_wide.2 (HA.out _))).mono ?_; rintro e w2 ⟨rfl, hb2⟩; have fM := (bM1.below hb2).frozen 0; have cM := (bM1.below hb2).cell 0)
        | (gi_at_call 43; refine (CallsIn.inRound l (callsIn_wide.2 (HA.out _))).mono ?_; rintro e w2 ⟨rfl, hb2⟩; have fM := (bM1.below hb2).frozen 0; have cM := (bM1.below hb2).cell 0))
      exact ⟨⟨⟨(bA1.below hb2).other (a := ⟨w.heap.size + 1, 0, none⟩) (by simp) _, by rw [show ((cntK fairB (pre ++ [x]) : Nat) : Int) = (c : Int) + 1 by rw [HSN.out]; rfl]; exact (bM1.below hb2).set1 _⟩, (below_step hB1 hB1.size hb2).setCell (by simp) _, Nat.le_trans hgw hb2.size⟩, (KeptFrom.of_below hb2).cell _ _ _ (.inl hlM)⟩
  case done =>
    rintro D W hD ⟨⟨bA1, bM1⟩, hB1, hgw⟩ hK
    have cM := bM1.cell 0
    have hlX := bM1.lt
    gi_wp2
    refine ⟨by simp, .inl ⟨_, _, rfl, run_takeDeferred hK, ?_⟩⟩
    refine ⟨_, ?_, ⟨by rw [HXS.out], hB1.trans (belowK_b (w := w) (Nat.le_refl _) W D _ _ (by omega) hK rfl rfl)⟩⟩
    simp [results, Try.f54, go_sem]

end Go.Proofs.Ytkpjlglfhhdcbaa
