
/-
  The program's greatest values. (Walks.)
-/
import Derived.Test.YtfemfmkgdgcemaaShO
namespace Go.Proofs.Ytfemfmkgdgcemaa
open Go.RowKit

/-- the cells of one kind, wherever its kinds lie -/
theorem kinds_range {w : World} {ko : Option Addr} {K : List (Nat × Nat × Nat)} (h : CellsAt w ko (kdC K)) {i : Nat} (hi : i < K.length) :
    ∃ b o, ko = some ⟨b, o, none⟩ ∧ w.rangeAt b (o + i * 3) (kdV (K.getD i (0, 0, 0))) := by
  have hl := kdC_at K i 0 hi (by omega)
  obtain ⟨b, o, hb, _⟩ := h (i * 3 + 0) _ (hl.trans (show (kdV (K.getD i (0, 0, 0)))[0]? = some (.int .i64 ((K.getD i (0, 0, 0)).1 : Int)) from rfl))
  refine ⟨b, o, hb, fun j v hv => ?_⟩
  have hj : j < 3 := by
    rcases Nat.lt_or_ge j 3 with h' | h'
    · exact h'
    · rw [List.getElem?_eq_none (by simp [kdV]; omega)] at hv; cases hv
  obtain ⟨b2, o2, hb2, hc⟩ := h (i * 3 + j) v ((kdC_at K i j hi hj).trans hv)
  rw [hb] at hb2
  simp only [Option.some.injEq, Addr.mk.injEq, and_true] at hb2
  obtain ⟨rfl, rfl⟩ := hb2
  rw [Nat.add_assoc]; exact hc
theorem worthV_take {K : List (Nat × Nat × Nat)} {i : Nat} (hi : i < K.length) (x y : Nat) : worthV (K.take (i + 1)) x y = addV x y (worthV (K.take i) x y) (K.getD i (0, 0, 0)) := by
  rw [take_succ_getD K i (0, 0, 0) hi, worthV_snoc]
theorem sh_max (a b : Int) : (if a < b then b else a) = if a < b then b else a := rfl

set_option maxRecDepth 100000 in
set_option maxHeartbeats 4000000 in
theorem value1_any (P : Nat) (ko : Option Addr) (kd : Nat) (K : List (Nat × Nat × Nat)) (hK4 : K.length ≤ 4) (hOK : ∀ k ∈ K, kdOk k) (x y : Nat) (W : World) (hP : HeldB W P 51 #[.slice ko K.length kd]) (hC : CellsAt W ko (kdC K)) :
    Calls Try.prog 53 #[.agg #[.int .i64 (x : Int), .int .i64 (y : Int)], .pointer (some ⟨P, 0, none⟩)] W fun e W' => e = .returned (.int .i64 (worthV K x y)) ∧ Below W.heap.size W W' := by
  have HI := Lib.hid (fun (a b : Int) W => shIsPiece_any (x : Int) (y : Int) a b W)
  have HR := Lib.hid (fun (i : Nat) (hi : i < K.length) (w : World) (hb : Below W.heap.size W w) => kinds_range (hC.below hb) hi)
  have HT := Lib.hid (fun (i : Nat) (hi : i < K.length) => worthV_take hi x y)
  have HTL := Lib.hid (show worthV (K.take K.length) x y = worthV K x y by rw [List.take_length])
  have HBD := Lib.hid (fun (i : Nat) => worthV_bd (K := K.take i) (fun k hk => hOK k (List.mem_of_mem_take hk)) x y)
  have hp0 : (W.alloc (.cells #[.int .i64 (x : Int), .int .i64 (y : Int)] 36)).cell? ⟨P, 0, none⟩ = some (.slice ko K.length kd) := (hP.alloc _).cell 0
  have hN := HeldB.new W 36 #[.int .i64 (x : Int), .int .i64 (y : Int)]
  have hb := below_alloc W (.cells #[.int .i64 (x : Int), .int .i64 (y : Int)] 36)
  clear hP hC
  generalize hN4 : K.length = N at *
  have HN4 := Lib.hid hN4
  clear hN4
  go_enter Try.func53, Try.ntmps53
  go_wp2
  go_loopw [4, 9] (fun vg vi wr => ∃ (i : Nat), i ≤ N ∧ vi = .int .i64 (i : Int) ∧ vg = .int .i64 (worthV (K.take i) x y) ∧ HeldB wr W.heap.size 36 #[.int .i64 (x : Int), .int .i64 (y : Int)] ∧ Below W.heap.size W wr) (fun _ vi _ => N - (intOf vi).toNat)
  case atStart => exact ⟨0, by omega, rfl, rfl, hN, hb⟩
  case round =>
    clear hN hb hp0
    obtain ⟨i, hi, rfl, rfl, hS, hb⟩ := hrel
    by_cases hlt : i < N
    · obtain ⟨b, o, rfl, hr⟩ := HR.out i hlt wr hb
      have HTI := Lib.hid (HT.out i hlt)
      obtain ⟨hg0, hg9⟩ := HBD.out i
      obtain ⟨⟨a, c, v⟩, hk⟩ : ∃ k, K.getD i (0, 0, 0) = k := ⟨_, rfl⟩
      have hk9 : (v : Int) ≤ 99 := by
        have := (hOK (K.getD i (0, 0, 0)) (getD_mem _ (by rw [HN4.out]; exact hlt))).2.2.2.2
        rw [hk] at this
        simp only at this
        omega
      rw [hk] at hr HTI
      have hrr : wr.rangeAt b (o + i * 3) [.int .i64 (a : Int), .int .i64 (c : Int), .int .i64 (v : Int)] := hr
      obtain ⟨gv, hgv⟩ : ∃ z, worthV (K.take i) x y = z := ⟨_, rfl⟩
      rw [hgv] at HTI hg0 hg9 ⊢
      clear hgv hk hr
      have HII := Lib.hid (HI.out (a : Int) (c : Int))
      have hSl := hS.lt
      have hS2 := hS.alloc (.cells #[.int .i64 (a : Int), .int .i64 (c : Int), .int .i64 (v : Int)] 68)
      have hKN := HeldB.new wr 68 #[.int .i64 (a : Int), .int .i64 (c : Int), .int .i64 (v : Int)]
      have hrk : (wr.alloc (.cells #[.int .i64 (a : Int), .int .i64 (c : Int), .int .i64 (v : Int)] 68)).rangeAt wr.heap.size 0 [.int .i64 (a : Int), .int .i64 (c : Int)] := fun j u hu => by
        rw [Nat.zero_add, hKN.cell j]
        have hj : j < 2 := by
          rcases Nat.lt_or_ge j 2 with h' | h'
          · exact h'
          · rw [List.getElem?_eq_none (by simp; omega)] at hu; cases hu
        rcases (show j = 0 ∨ j = 1 by omega) with rfl | rfl
        · exact hu
        · exact hu
      have hb2 := hb.alloc hb.size (.cells #[.int .i64 (a : Int), .int .i64 (c : Int), .int .i64 (v : Int)] 68)
      by_cases hc : ((x : Int) = a ∧ (y : Int) = c) ∨ ((x : Int) = c ∧ (y : Int) = a)
      · rw [decide_eq_true hc] at HII
        have hadd : addV x y gv (a, c, v) = if gv < (v : Int) then (v : Int) else gv := by unfold addV; rw [if_pos (show (x = a ∧ y = c) ∨ (x = c ∧ y = a) by omega)]
        rw [hadd] at HTI
        clear hadd hc
        go_wp2_with (first
          | (refine wpList_load_mid rfl 68 _ rfl b (o + i * 3) rfl [.int .i64 (a : Int), .int .i64 (c : Int), .int .i64 (v : Int)] _ hrr Try.underlying68 rfl (by kernel_rfl) ?_)
          | (refine wpList_load_mid rfl 36 _ rfl wr.heap.size 0 rfl [.int .i64 (a : Int), .int .i64 (c : Int)] _ hrk Try.underlying36 rfl (by kernel_rfl) ?_)
          | (refine wpList_load_row rfl 36 _ rfl W.heap.size rfl 36 #[.int .i64 (x : Int), .int .i64 (y : Int)] (0, 0) _ hS2 Try.underlying36 rfl (by kernel_rfl) ?_)
          | (go_at_call 48; refine (HII.out _).mono ?_; rintro e w3 ⟨rfl, hb3⟩; clear HII; have hv3 : w3.cell? ⟨wr.heap.size, 2, none⟩ = some (.int .i64 (v : Int)) := (hKN.below hb3).cell 2; replace hS2 := hS2.below hb3; replace hb2 := below_step hb2 hb2.size hb3))
        go_roundw
        case rel => exact ⟨i + 1, by omega, by go_num, by rw [HTI.out], hS2, hb2⟩
        case measure => simp [intOf]; omega
      · rw [decide_eq_false hc] at HII
        have hadd : addV x y gv (a, c, v) = gv := by unfold addV; rw [if_neg (show ¬ ((x = a ∧ y = c) ∨ (x = c ∧ y = a)) by omega)]
        rw [hadd] at HTI
        clear hadd hc
        go_wp2_with (first
          | (refine wpList_load_mid rfl 68 _ rfl b (o + i * 3) rfl [.int .i64 (a : Int), .int .i64 (c : Int), .int .i64 (v : Int)] _ hrr Try.underlying68 rfl (by kernel_rfl) ?_)
          | (refine wpList_load_mid rfl 36 _ rfl wr.heap.size 0 rfl [.int .i64 (a : Int), .int .i64 (c : Int)] _ hrk Try.underlying36 rfl (by kernel_rfl) ?_)
          | (refine wpList_load_row rfl 36 _ rfl W.heap.size rfl 36 #[.int .i64 (x : Int), .int .i64 (y : Int)] (0, 0) _ hS2 Try.underlying36 rfl (by kernel_rfl) ?_)
          | (go_at_call 48; refine (HII.out _).mono ?_; rintro e w3 ⟨rfl, hb3⟩; clear HII; have hv3 : w3.cell? ⟨wr.heap.size, 2, none⟩ = some (.int .i64 (v : Int)) := (hKN.below hb3).cell 2; replace hS2 := hS2.below hb3; replace hb2 := below_step hb2 hb2.size hb3))
        go_roundw
        case rel => exact ⟨i + 1, by omega, by go_num, by rw [HTI.out], hS2, hb2⟩
        case measure => simp [intOf]; omega
    · have hli : decide ((i : Int) < (N : Int)) = false := by rw [decide_eq_false_iff_not]; omega
      obtain rfl : i = N := by omega
      rw [HTL.out]
      clear HTL
      go_wp2
      go_ret
      exact ⟨rfl, hb⟩

set_option maxRecDepth 100000 in
set_option maxHeartbeats 8000000 in
theorem bestValue_any (cb : Value) (u : Nat → Nat → Int) (w h : Nat) (hw1 : 1 ≤ w) (hw : w ≤ 12) (hh1 : 1 ≤ h) (hh : h ≤ 12) (W : World)
    (hu : ∀ a b, a ≤ 12 → b ≤ 12 → 1 ≤ a → 1 ≤ b → -400000 ≤ tabC opG u a b ∧ tabC opG u a b ≤ 400000)
    (HU : ∀ (a b : Nat) (W' : World), 1 ≤ a → a ≤ 12 → 1 ≤ b → b ≤ 12 → Below W.heap.size W W' → Calls Try.prog 53 #[.agg #[.int .i64 (a : Int), .int .i64 (b : Int)], cb] W' fun e W'' => e = .returned (.int .i64 (u a b)) ∧ Below W'.heap.size W' W'') :
    Calls Try.prog 46 #[.agg #[.int .i64 (w : Int), .int .i64 (h : Int)], .func (.func 53) #[] #[cb]] W fun e W' => e = .returned (.int .i64 (tabC opG u w h)) ∧ Below W.heap.size W W' := by
  have HU := Lib.hid HU
  have HZ := Lib.hid (zero_tbGain)
  have HTRY := Lib.hid (fun (B a b : Nat) (T : Nat → Nat → Int) (ha : a ≤ 12) (hb : b ≤ 12) (hT : FewT T) (W : World) (hB : HeldB W B 72 (tbC T)) => tryGain_any B a b T (u a b) ha hb hT W hB)
  have HOF := Lib.hid (fun (B : Nat) (T : Nat → Nat → Int) (W : World) (hB : HeldB W B 72 (tbC T)) => ofGain_any B w h T hw hh W hB)
  have hk0 : HeldB ((W.alloc (.cells #[.int .i64 (w : Int), .int .i64 (h : Int)] 36)).alloc (.cells (tbC fun _ _ => 0) 72)) W.heap.size 36 #[.int .i64 (w : Int), .int .i64 (h : Int)] := (HeldB.new W _ _).alloc _
  have hk1 : HeldB ((W.alloc (.cells #[.int .i64 (w : Int), .int .i64 (h : Int)] 36)).alloc (.cells (tbC fun _ _ => 0) 72)) (W.heap.size + 1) 72 (tbC fun _ _ => 0) := held_new1 W _ _ _
  have hb0 : Below W.heap.size W ((W.alloc (.cells #[.int .i64 (w : Int), .int .i64 (h : Int)] 36)).alloc (.cells (tbC fun _ _ => 0) 72)) := ((Below.refl _ W).alloc (Nat.le_refl _) _).alloc (by simp) _
  have HFEW0 : FewT (fun _ _ => 0) := fun _ _ _ _ => ⟨by show (-400000 : Int) ≤ 0; omega, by show (0 : Int) ≤ 400000; omega⟩
  have HF0 := Lib.hid HFEW0
  clear HFEW0
  have hZ : ∃ Z, tbC (fun _ _ => 0) = Z := ⟨_, rfl⟩
  obtain ⟨Z, hZ⟩ := hZ
  rw [hZ] at HZ hk0 hk1 hb0
  have HZE := Lib.hid hZ
  clear hZ
  go_enter Try.func46, Try.ntmps46
  go_wp2_with (refine wpList_alloc_zero rfl 72 rfl Z HZ.out ?_)
  generalize ((W.alloc (.cells #[.int .i64 (w : Int), .int .i64 (h : Int)] 36)).alloc (.cells Z 72)) = V at *
  go_loopw [6] (fun vh wr => ∃ (y : Nat) (T : Nat → Nat → Int), 1 ≤ y ∧ y ≤ h + 1 ∧ vh = .int .i64 (y : Int) ∧ FewT T ∧ DoneT (tabC opG u) w T y 1 ∧ HeldB wr W.heap.size 36 #[.int .i64 (w : Int), .int .i64 (h : Int)] ∧ HeldB wr (W.heap.size + 1) 72 (tbC T) ∧ Below W.heap.size W wr) (fun vh _ => h + 1 - (intOf vh).toNat)
  case atStart => exact ⟨1, fun _ _ => 0, Nat.le_refl _, by omega, rfl, HF0.out, DoneT.start _ _ _, hk0, hk1.eq HZE.out.symm, hb0⟩
  case round =>
    clear hk0 hk1 hb0
    obtain ⟨y, T, hy1, hy2, rfl, hF, hD, hH, hK, hb⟩ := hrel
    replace hF := Lib.hid hF
    replace hD := Lib.hid hD
    have c0 : wr.cell? ⟨W.heap.size, 0, none⟩ = some (.int .i64 (w : Int)) := hH.cell 0
    have c1 : wr.cell? ⟨W.heap.size, 1, none⟩ = some (.int .i64 (h : Int)) := hH.cell 1
    by_cases hlt : y ≤ h
    · go_wp2
      clear c0 c1
      go_loopw [7] (fun vw wr => ∃ (x : Nat) (T : Nat → Nat → Int), 1 ≤ x ∧ x ≤ w + 1 ∧ vw = .int .i64 (x : Int) ∧ FewT T ∧ DoneT (tabC opG u) w T y x ∧ HeldB wr W.heap.size 36 #[.int .i64 (w : Int), .int .i64 (h : Int)] ∧ HeldB wr (W.heap.size + 1) 72 (tbC T) ∧ Below W.heap.size W wr) (fun vw _ => w + 1 - (intOf vw).toNat)
      case atStart => exact ⟨1, T, Nat.le_refl _, by omega, rfl, hF.out, hD.out, hH, hK, hb⟩
      case round =>
        clear hH hK hb hF hD T
        obtain ⟨x, T, hx1, hx2, rfl, hF, hD, hH, hK, hb⟩ := hrel
        replace hF := Lib.hid hF
        replace hD := Lib.hid hD
        have c0 : wr.cell? ⟨W.heap.size, 0, none⟩ = some (.int .i64 (w : Int)) := hH.cell 0
        have c1 : wr.cell? ⟨W.heap.size, 1, none⟩ = some (.int .i64 (h : Int)) := hH.cell 1
        by_cases hlx : x ≤ w
        · have HV := Lib.hid (hD.out.value hx1 hlx hy1)
          have HFN := Lib.hid (hF.out.upd (w := x) (k := y) (hu x y (by omega) (by omega) hx1 hy1))
          have HDN := Lib.hid (hD.out.next hx1)
          have HTR := Lib.hid (fun (W' : World) (hB : HeldB W' (W.heap.size + 1) 72 (tbC T)) => HTRY.out (W.heap.size + 1) x y T (by omega) (by omega) hF.out W' hB)
          rw [HV.out] at HTR
          have HUU := Lib.hid (fun (W' : World) (hb : Below W.heap.size W W') => HU.out x y W' hx1 (by omega) hy1 (by omega) hb)
          obtain ⟨ux, hux⟩ : ∃ v, u x y = v := ⟨_, rfl⟩
          obtain ⟨tx, htx⟩ : ∃ v, tabC opG u x y = v := ⟨_, rfl⟩
          rw [hux] at HTR HUU
          rw [htx] at HTR HFN HDN
          clear hux htx HV hD
          go_wp2
          have kx : HeldB (wr.alloc (.cells #[.int .i64 (x : Int), .int .i64 (y : Int)] 36)) wr.heap.size 36 #[.int .i64 (x : Int), .int .i64 (y : Int)] := HeldB.new wr _ _
          have hHl := hH.lt
          have hKl := hK.lt
          replace hH := hH.alloc (.cells #[.int .i64 (x : Int), .int .i64 (y : Int)] 36)
          replace hK := hK.alloc (.cells #[.int .i64 (x : Int), .int .i64 (y : Int)] 36)
          replace hb := hb.alloc hb.size (.cells #[.int .i64 (x : Int), .int .i64 (y : Int)] 36)
          clear c0 c1
          generalize wr.alloc (.cells #[.int .i64 (x : Int), .int .i64 (y : Int)] 36) = w1 at *
          generalize wr.heap.size = gx at *
          refine wp_region_held (S := fun W' => HeldB W' gx 36 #[.int .i64 (x : Int), .int .i64 (y : Int)]) (by kernel_rfl) ?_
          replace kx : HeldB ({ w1 with drawn := w1.drawn + 1 } : World) gx 36 #[.int .i64 (x : Int), .int .i64 (y : Int)] := kx
          replace hH : HeldB ({ w1 with drawn := w1.drawn + 1 } : World) W.heap.size 36 #[.int .i64 (w : Int), .int .i64 (h : Int)] := hH
          replace hK : HeldB ({ w1 with drawn := w1.drawn + 1 } : World) (W.heap.size + 1) 72 (tbC T) := hK
          replace hb : Below W.heap.size W ({ w1 with drawn := w1.drawn + 1 } : World) := hb.trans (below_drewN _ _ 1)
          generalize ({ w1 with drawn := w1.drawn + 1 } : World) = w2 at *
          change Go.wpAnyH Try.prog Region.Mode.any _ _ _ 5 (Array.replicate 5 false) _ _
          refine wpAnyH_take (i := 0) (v := .agg #[.int .i64 (x : Int), .int .i64 (y : Int)]) rfl (by kernel_rfl) (by kernel_rfl) (by kernel_rfl) (fun _ _ _ h => h) (shYields_row (by rfl) 36 _ rfl gx (by rfl) 36 _ _ (fun _ h => h) Try.underlying36 rfl (by kernel_rfl)) kx ?_
          refine wpAnyH_take (i := 1) (v := .func (.func 53) #[] #[cb]) rfl (by kernel_rfl) (by kernel_rfl) (by kernel_rfl) (fun _ _ _ h => h) (Yields.yieldsIf (Or.inl ⟨by rfl, fun w => by go_simp⟩)) kx ?_
          refine wpAnyH_take (i := 2) (v := .agg #[.int .i64 (x : Int), .int .i64 (y : Int)]) rfl (by kernel_rfl) (by kernel_rfl) (by kernel_rfl) (fun _ _ _ h => h) (shYields_row (by rfl) 36 _ rfl gx (by rfl) 36 _ _ (fun _ h => h) Try.underlying36 rfl (by kernel_rfl)) kx ?_
          refine wpAnyH_all (rs := [3]) (by kernel_rfl) (by decide) ?_
          intro i' hi'
          simp only [List.mem_cons, List.not_mem_nil, or_false] at hi'
          subst hi'
          refine shOp_go rfl (by rfl) ?_
          unfold Oper.wp
          go_simp
          refine (HUU.out _ hb).mono ?_
          rintro e w3 ⟨rfl, hb3⟩
          replace kx := kx.below hb3
          replace hH := hH.below hb3
          replace hK := hK.below hb3
          replace hb := below_step hb hb.size hb3
          clear hb3 HUU
          refine ⟨kx, ?_⟩
          refine wpAnyH_all (rs := [4]) (by kernel_rfl) (by decide) ?_
          intro i' hi'
          simp only [List.mem_cons, List.not_mem_nil, or_false] at hi'
          subst hi'
          refine shOp_go rfl (by rfl) ?_
          unfold Oper.wp
          go_simp
          refine (HTR.out _ hK).mono ?_
          rintro e w4 ⟨⟨v4, rfl⟩, hK4, hg4⟩
          replace kx := kx.kept hg4 (by simp; omega)
          replace hH := hH.kept hg4 (by simp)
          replace hb : Below W.heap.size W w4 := hb.grown hg4 hb.size (fun k e => by cases e; omega)
          clear hg4 hK HTR
          refine ⟨kx, ?_⟩
          refine wpAnyH_done (by kernel_rfl) ?_ _
          go_wp2
          go_roundw
          case rel => exact ⟨x + 1, _, by omega, by omega, by go_num, HFN.out, HDN.out, hH, hK4, hb⟩
          case measure => simp [intOf]; omega
        · have hdf : decide ((x : Int) ≤ (w : Int)) = false := by rw [decide_eq_false_iff_not]; omega
          have HDN := Lib.hid (show DoneT (tabC opG u) w T (y + 1) 1 from hD.out.row (by omega))
          clear hD
          go_wp2
          go_roundw
          case rel => exact ⟨y + 1, T, by omega, by omega, by go_num, hF.out, HDN.out, hH, hK, hb⟩
          case measure => simp [intOf]; omega
    · have hdf : decide ((y : Int) ≤ (h : Int)) = false := by rw [decide_eq_false_iff_not]; omega
      have HOF1 := Lib.hid (fun (W' : World) (hB : HeldB W' (W.heap.size + 1) 72 (tbC T)) => HOF.out (W.heap.size + 1) T W' hB)
      rw [hD.out w h hw1 (Nat.le_refl _) hh1 (.inl (by omega))] at HOF1
      clear hD
      go_wp2_with (first
        | (refine wpList_load_row rfl 36 _ rfl W.heap.size rfl 36 #[.int .i64 (w : Int), .int .i64 (h : Int)] (0, 0) _ hH Try.underlying36 rfl (by kernel_rfl) ?_)
        | (go_at_call 55; refine (HOF1.out _ hK).mono ?_; rintro e w5 ⟨rfl, hb5⟩; clear HOF1))
      go_ret
      exact ⟨rfl, below_step hb hb.size hb5⟩

set_option maxRecDepth 100000 in
set_option maxHeartbeats 2000000 in
theorem shValue_any (w h : Nat) (ko : Option Addr) (kd : Nat) (K : List (Nat × Nat × Nat)) (hK4 : K.length ≤ 4) (hOK : ∀ k ∈ K, kdOk k) (hw1 : 1 ≤ w) (hw : w ≤ 12) (hh1 : 1 ≤ h) (hh : h ≤ 12) (W : World) (hC : CellsAt W ko (kdC K)) :
    Calls Try.prog 43 #[.agg #[.int .i64 (w : Int), .int .i64 (h : Int)], .slice ko K.length kd] W fun e W' => e = .returned (.int .i64 (tabC opG (worthV K) w h)) ∧ Below W.heap.size W W' := by
  have HB := Lib.hid (fun (P : Nat) (W : World) (hP : HeldB W P 51 #[.slice ko K.length kd]) (hC : CellsAt W ko (kdC K)) =>
    bestValue_any (.pointer (some ⟨P, 0, none⟩)) (worthV K) w h hw1 hw hh1 hh W (valT_bd hOK) (fun x y W' _ _ _ _ hb => value1_any P ko kd K hK4 hOK x y W' (hP.below hb) (hC.below hb)))
  have k := held_new1 W (.cells #[.int .i64 (w : Int), .int .i64 (h : Int)] 36) 51 #[.slice ko K.length kd]
  have hb0 : Below W.heap.size W ((W.alloc (.cells #[.int .i64 (w : Int), .int .i64 (h : Int)] 36)).alloc (.cells #[.slice ko K.length kd] 51)) := ((Below.refl _ W).alloc (Nat.le_refl _) _).alloc (by simp) _
  have hC2 := hC.below hb0
  generalize tabC opG (worthV K) w h = v at *
  clear hC
  go_enter Try.func43, Try.ntmps43
  go_wp2_with (go_at_call 46; refine (HB.out _ _ k hC2).mono ?_; rintro e w1 ⟨rfl, hb1⟩; clear HB)
  go_ret
  exact ⟨rfl, below_step hb0 hb0.size hb1⟩

set_option maxRecDepth 100000 in
set_option maxHeartbeats 4000000 in
theorem implSheetValue_any (w h : Int) (ao bo co : Option Addr) (ka kb kc : Nat) (ws hs vs : List Int) (W : World) (hwl : ws.length ≤ 1048576) (ca : CellsAt W ao (ws.map (Value.int .i64))) (cb : CellsAt W bo (hs.map (Value.int .i64))) (cc : CellsAt W co (vs.map (Value.int .i64))) :
    Calls Try.prog 26 #[.int .i64 w, .int .i64 h, .slice ao ws.length ka, .slice bo hs.length kb, .slice co vs.length kc] W fun e W' =>
      e = .returned (.tuple #[.int .i64 (valO w h ws hs vs), .bool (shB w h && kindsB ws hs vs)]) ∧ Below W.heap.size W W' := by
  have HR := Lib.hid (fun (W1 : World) (hb : Below W.heap.size W W1) => readKinds_any ao bo co ka kb kc ws hs vs W1 hwl (ca.below hb) (cb.below hb) (cc.below hb))
  clear ca cb cc
  unfold valO
  have hgo : ∀ p q : Bool, shB w h = p → kindsB ws hs vs = q → Calls Try.prog 26 #[.int .i64 w, .int .i64 h, .slice ao ws.length ka, .slice bo hs.length kb, .slice co vs.length kc] W fun e W' =>
      e = .returned (.tuple #[.int .i64 (if p && q then tabC opG (worthV (kindsN ws hs vs ws.length)) w.toNat h.toNat else 0), .bool (p && q)]) ∧ Below W.heap.size W W' := by
    intro p q hp hq
    rw [hq] at HR
    cases p
    · have H1 := Lib.hid (fun W => shRead_no hp W)
      rw [Bool.false_and]
      simp only [Bool.false_eq_true, if_false]
      clear hp hq
      generalize kdC (kindsN ws hs vs ws.length) = C at *
      go_enter Try.func26, Try.ntmps26
      go_wp2_with (go_at_call 38; refine (H1.out _).mono ?_; rintro e w1 ⟨rfl, hb1⟩; clear H1)
      have hb2 := hb1.alloc hb1.size (.cells #[.int .i64 0, .int .i64 0] 36)
      refine (HR.out _ hb2).mono ?_
      rintro e w3 ⟨⟨hy, hn⟩, hb3⟩
      have hb4 := below_step hb2 hb2.size hb3
      cases q
      · obtain rfl := hn rfl
        clear hy hn hb2 hb3 HR
        go_wp2
        go_ret2
        exact ⟨rfl, hb4⟩
      · obtain ⟨ko, kd, rfl, hown⟩ := hy rfl
        clear hy hn hb2 hb3 HR hown
        go_wp2
        go_ret2
        exact ⟨rfl, hb4⟩
    · have H1 := Lib.hid (fun W => shRead_yes hp W)
      obtain ⟨w, h, rfl, rfl, hw1, hw2, hh1, hh2⟩ := shB_yes hp
      rw [Bool.true_and]
      simp only [Int.toNat_natCast]
      clear hp
      cases q
      · simp only [Bool.false_eq_true, if_false]
        clear hq
        generalize kdC (kindsN ws hs vs ws.length) = C at *
        go_enter Try.func26, Try.ntmps26
        go_wp2_with (go_at_call 38; refine (H1.out _).mono ?_; rintro e w1 ⟨rfl, hb1⟩; clear H1)
        have hb2 := hb1.alloc hb1.size (.cells #[.int .i64 (w : Int), .int .i64 (h : Int)] 36)
        refine (HR.out _ hb2).mono ?_
        rintro e w3 ⟨⟨hy, hn⟩, hb3⟩
        have hb4 := below_step hb2 hb2.size hb3
        obtain rfl := hn rfl
        clear hy hn hb2 hb3 HR
        go_wp2
        go_ret2
        exact ⟨rfl, hb4⟩
      · simp only [if_true]
        obtain ⟨hl, hall⟩ := kindsB_all hq
        have HV := Lib.hid (fun (ko : Option Addr) (kd : Nat) (W : World) (hC : CellsAt W ko (kdC (kindsN ws hs vs ws.length))) =>
          shValue_any w h ko kd (kindsN ws hs vs ws.length) (by rw [kindsN_len]; omega) (kindsN_ok hall) hw1 hw2 hh1 hh2 W hC)
        rw [kindsN_len] at HV
        clear hq hall hl
        generalize tabC opG (worthV (kindsN ws hs vs ws.length)) w h = v at *
        generalize kdC (kindsN ws hs vs ws.length) = C at *
        go_enter Try.func26, Try.ntmps26
        go_wp2_with (go_at_call 38; refine (H1.out _).mono ?_; rintro e w1 ⟨rfl, hb1⟩; clear H1)
        have hb2 := hb1.alloc hb1.size (.cells #[.int .i64 (w : Int), .int .i64 (h : Int)] 36)
        have k1 := HeldB.new w1 36 #[.int .i64 (w : Int), .int .i64 (h : Int)]
        refine (HR.out _ hb2).mono ?_
        rintro e w3 ⟨⟨hy, hn⟩, hb3⟩
        have hb4 := below_step hb2 hb2.size hb3
        have k3 := k1.below hb3
        obtain ⟨ko, kd, rfl, hown⟩ := hy rfl
        have hC := ownsK_cells hown
        clear hy hn hb2 hb3 HR hown k1
        go_wp2_with (first
          | (refine wpList_load_row rfl 36 _ rfl w1.heap.size rfl 36 #[.int .i64 (w : Int), .int .i64 (h : Int)] (0, 0) _ k3 Try.underlying36 rfl (by kernel_rfl) ?_)
          | (go_at_call 43; refine (HV.out _ _ _ hC).mono ?_; rintro e w5 ⟨rfl, hb5⟩; clear HV))
        go_ret2
        exact ⟨rfl, below_step hb4 hb4.size hb5⟩
  exact hgo _ _ rfl rfl

end Go.Proofs.Ytfemfmkgdgcemaa
