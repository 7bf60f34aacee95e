
/-
  The table of the best numbers of pieces. (Walks.)
-/
import Derived.Test.YtfemfmkgdgcemaaShD
import Derived.OrdersHeld
namespace Go.Proofs.Ytfemfmkgdgcemaa
open Go.RowKit

/-- what is done: all rows of sheets ahead of one, and in it all ahead of one -/
def DoneT (f : Nat → Nat → Int) (w : Nat) (T : Nat → Nat → Int) (y x : Nat) : Prop := ∀ a b, 1 ≤ a → a ≤ w → 1 ≤ b → (b < y ∨ (b = y ∧ a < x)) → T a b = f a b
theorem DoneT.start (f : Nat → Nat → Int) (w : Nat) (T : Nat → Nat → Int) : DoneT f w T 1 1 := fun a b h1 _ h3 h4 => by omega
theorem DoneT.row {f : Nat → Nat → Int} {w : Nat} {T : Nat → Nat → Int} {y x : Nat} (h : DoneT f w T y x) (hx : w < x) : DoneT f w T (y + 1) 1 := fun a b h1 h2 h3 h4 => h a b h1 h2 h3 (by omega)
theorem DoneT.next {f : Nat → Nat → Int} {w : Nat} {T : Nat → Nat → Int} {y x : Nat} (h : DoneT f w T y x) (_hx : 1 ≤ x) : DoneT f w (updT T x y (f x y)) y (x + 1) := fun a b h1 h2 h3 h4 => by
  unfold updT
  split
  · next hc => rw [hc.1, hc.2]
  · exact h a b h1 h2 h3 (by omega)
theorem DoneT.value {op : Int → Int → Int} {u : Nat → Nat → Int} {w : Nat} {T : Nat → Nat → Int} {y x : Nat} (h : DoneT (tabC op u) w T y x) (hx : 1 ≤ x) (hxw : x ≤ w) (hy : 1 ≤ y) :
    ((cutsL x y).map (bothF T)).foldl op (u x y) = tabC op u x y := by
  rw [tabC_eq op u x y]
  congr 1
  refine List.map_congr_left fun p hp => ?_
  rcases mem_cutsL hp with ⟨c, h1, h2, rfl⟩ | ⟨c, h1, h2, rfl⟩
  · simp only [bothF]
    rw [h c y h1 (by omega) hy (.inr ⟨rfl, h2⟩), h (x - c) y (by omega) (by omega) hy (.inr ⟨rfl, by omega⟩)]
  · simp only [bothF]
    rw [h x c hx hxw h1 (.inl h2), h x (y - c) hx hxw (by omega) (.inl (by omega))]
theorem FewT.upd {T : Nat → Nat → Int} (h : FewT T) {w k : Nat} {v : Int} (hv : -400000 ≤ v ∧ v ≤ 400000) : FewT (updT T w k v) := fun a b h1 h2 => by
  unfold updT
  split
  · exact hv
  · exact h a b h1 h2
theorem shOp_go {P : Program} {ops : Array Oper} {Q : Exit → Act → World → Prop} {i : Nat} {o : Oper} {K : Act → World → Prop} {a : Act} {w : World} (hi : ops[i]? = some o) (hw : Region.wanted o (yielded ops a.tmps) = true) (h : o.wp P a w K Q) : wpOp P ops Q i K a w := by
  unfold wpOp
  simp only [hi, hw, if_true]
  exact .inl h
theorem shYields_row {P : Program} {ops : Array Oper} {S : World → Prop} {op : Oper} {a : Act} (hw : Region.wanted op (yielded ops a.tmps) = true) (ty : TypeId) (x : Operand) (ho : op.op = .load ty x)
    (g : Nat) (hx : a.eval x = .pointer (some ⟨g, 0, none⟩)) (t : TypeId) (cs : Array Value) (d : TypeDesc) (hS : ∀ w, S w → HeldB w g t cs)
    (hu : P.underlying ty = some d) (hd : (match d with | .struct _ | .array _ _ => true | _ => false) = true) (hi : (P.info? ty).map (·.size) = some cs.size) : YieldsIf P ops S op (.agg cs) a :=
  .inl ⟨hw, fun w hw' => by
    unfold execOp
    simp only [ho, hx, Instr.loadAt, Instr.sureAddr, Sem.run_bind, Sem.run_pure, Result.andThen_ok, run_loadVar_row w g t ty cs (0, 0) d (hS w hw') hu hd hi]⟩
theorem tryGain_any (B w h : Nat) (T : Nat → Nat → Int) (u : Int) (hw : w ≤ 12) (hh : h ≤ 12) (hT : FewT T) (W : World) (hB : HeldB W B 72 (tbC T)) :
    Calls Try.prog 54 #[.pointer (some ⟨B, 0, none⟩), .agg #[.int .i64 (w : Int), .int .i64 (h : Int)], .int .i64 u] W fun e W' =>
      (∃ v, e = .returned v) ∧ HeldB W' B 72 (tbC (updT T w h (((cutsL w h).map (bothF T)).foldl opG u))) ∧ W.grownBy W' (some B) :=
  callsIn_wide.1 (tryGain_in 6 (Nat.le_refl _) B w h T u hw hh hT W hB)
theorem zero_tbGain (w : World) : (zeroValue 72).run Try.prog w = .ok (.agg (tbC fun _ _ => 0)) w := by kernel_rfl

set_option maxRecDepth 100000 in
set_option maxHeartbeats 2000000 in
theorem most1_any (P : Nat) (a b x y : Nat) (W : World) (hP : HeldB W P 36 #[.int .i64 (a : Int), .int .i64 (b : Int)]) :
    Calls Try.prog 47 #[.agg #[.int .i64 (x : Int), .int .i64 (y : Int)], .pointer (some ⟨P, 0, none⟩)] W fun e W' => e = .returned (.int .i64 (worthM a b x y)) ∧ Below W.heap.size W W' := by
  have HI := Lib.hid (fun W => shIsPiece_any (x : Int) (y : Int) (a : Int) (b : Int) W)
  have hP2 := hP.alloc (.cells #[.int .i64 (x : Int), .int .i64 (y : Int)] 36)
  have hN := HeldB.new W 36 #[.int .i64 (x : Int), .int .i64 (y : Int)]
  have hb := below_alloc W (.cells #[.int .i64 (x : Int), .int .i64 (y : Int)] 36)
  by_cases hc : (x = a ∧ y = b) ∨ (x = b ∧ y = a)
  · have hv : worthM a b x y = 1 := by unfold worthM; rw [if_pos hc]
    rw [decide_eq_true (show ((x : Int) = a ∧ (y : Int) = b) ∨ ((x : Int) = b ∧ (y : Int) = a) by omega)] at HI
    rw [hv]
    clear hc hv
    go_enter Try.func47, Try.ntmps47
    go_wp2_with (first
      | (refine wpList_load_row rfl 36 _ rfl P rfl 36 _ (0, 0) _ hP2 Try.underlying36 rfl (by kernel_rfl) ?_)
      | (go_at_call 48; refine (HI.out _).mono ?_; rintro e w1 ⟨rfl, hb1⟩; clear HI))
    go_ret
    exact ⟨rfl, below_step hb hb.size hb1⟩
  · have hv : worthM a b x y = 0 := by unfold worthM; rw [if_neg hc]
    rw [decide_eq_false (show ¬ (((x : Int) = a ∧ (y : Int) = b) ∨ ((x : Int) = b ∧ (y : Int) = a)) by omega)] at HI
    rw [hv]
    clear hc hv
    go_enter Try.func47, Try.ntmps47
    go_wp2_with (first
      | (refine wpList_load_row rfl 36 _ rfl P rfl 36 _ (0, 0) _ hP2 Try.underlying36 rfl (by kernel_rfl) ?_)
      | (go_at_call 48; refine (HI.out _).mono ?_; rintro e w1 ⟨rfl, hb1⟩; clear HI))
    go_ret
    exact ⟨rfl, below_step hb hb.size hb1⟩

set_option maxRecDepth 100000 in
set_option maxHeartbeats 8000000 in
theorem bestMost_any (cb : Value) (u : Nat → Nat → Int) (w h : Nat) (hw1 : 1 ≤ w) (hw : w ≤ 12) (hh1 : 1 ≤ h) (hh : h ≤ 12) (W : World)
    (hu : ∀ a b, a ≤ 12 → b ≤ 12 → 1 ≤ a → 1 ≤ b → -400000 ≤ tabC opG u a b ∧ tabC opG u a b ≤ 400000)
    (HU : ∀ (a b : Nat) (W' : World), 1 ≤ a → a ≤ 12 → 1 ≤ b → b ≤ 12 → Below W.heap.size W W' → Calls Try.prog 47 #[.agg #[.int .i64 (a : Int), .int .i64 (b : Int)], cb] W' fun e W'' => e = .returned (.int .i64 (u a b)) ∧ Below W'.heap.size W' W'') :
    Calls Try.prog 46 #[.agg #[.int .i64 (w : Int), .int .i64 (h : Int)], .func (.func 47) #[] #[cb]] W fun e W' => e = .returned (.int .i64 (tabC opG u w h)) ∧ Below W.heap.size W W' := by
  have HU := Lib.hid HU
  have HZ := Lib.hid (zero_tbGain)
  have HTRY := Lib.hid (fun (B a b : Nat) (T : Nat → Nat → Int) (ha : a ≤ 12) (hb : b ≤ 12) (hT : FewT T) (W : World) (hB : HeldB W B 72 (tbC T)) => tryGain_any B a b T (u a b) ha hb hT W hB)
  have HOF := Lib.hid (fun (B : Nat) (T : Nat → Nat → Int) (W : World) (hB : HeldB W B 72 (tbC T)) => ofGain_any B w h T hw hh W hB)
  have hk0 : HeldB ((W.alloc (.cells #[.int .i64 (w : Int), .int .i64 (h : Int)] 36)).alloc (.cells (tbC fun _ _ => 0) 72)) W.heap.size 36 #[.int .i64 (w : Int), .int .i64 (h : Int)] := (HeldB.new W _ _).alloc _
  have hk1 : HeldB ((W.alloc (.cells #[.int .i64 (w : Int), .int .i64 (h : Int)] 36)).alloc (.cells (tbC fun _ _ => 0) 72)) (W.heap.size + 1) 72 (tbC fun _ _ => 0) := held_new1 W _ _ _
  have hb0 : Below W.heap.size W ((W.alloc (.cells #[.int .i64 (w : Int), .int .i64 (h : Int)] 36)).alloc (.cells (tbC fun _ _ => 0) 72)) := ((Below.refl _ W).alloc (Nat.le_refl _) _).alloc (by simp) _
  have HFEW0 : FewT (fun _ _ => 0) := fun _ _ _ _ => ⟨by show (-400000 : Int) ≤ 0; omega, by show (0 : Int) ≤ 400000; omega⟩
  have HF0 := Lib.hid HFEW0
  clear HFEW0
  have hZ : ∃ Z, tbC (fun _ _ => 0) = Z := ⟨_, rfl⟩
  obtain ⟨Z, hZ⟩ := hZ
  rw [hZ] at HZ hk0 hk1 hb0
  have HZE := Lib.hid hZ
  clear hZ
  go_enter Try.func46, Try.ntmps46
  go_wp2_with (refine wpList_alloc_zero rfl 72 rfl Z HZ.out ?_)
  generalize ((W.alloc (.cells #[.int .i64 (w : Int), .int .i64 (h : Int)] 36)).alloc (.cells Z 72)) = V at *
  go_loopw [6] (fun vh wr => ∃ (y : Nat) (T : Nat → Nat → Int), 1 ≤ y ∧ y ≤ h + 1 ∧ vh = .int .i64 (y : Int) ∧ FewT T ∧ DoneT (tabC opG u) w T y 1 ∧ HeldB wr W.heap.size 36 #[.int .i64 (w : Int), .int .i64 (h : Int)] ∧ HeldB wr (W.heap.size + 1) 72 (tbC T) ∧ Below W.heap.size W wr) (fun vh _ => h + 1 - (intOf vh).toNat)
  case atStart => exact ⟨1, fun _ _ => 0, Nat.le_refl _, by omega, rfl, HF0.out, DoneT.start _ _ _, hk0, hk1.eq HZE.out.symm, hb0⟩
  case round =>
    clear hk0 hk1 hb0
    obtain ⟨y, T, hy1, hy2, rfl, hF, hD, hH, hK, hb⟩ := hrel
    replace hF := Lib.hid hF
    replace hD := Lib.hid hD
    have c0 : wr.cell? ⟨W.heap.size, 0, none⟩ = some (.int .i64 (w : Int)) := hH.cell 0
    have c1 : wr.cell? ⟨W.heap.size, 1, none⟩ = some (.int .i64 (h : Int)) := hH.cell 1
    by_cases hlt : y ≤ h
    · go_wp2
      clear c0 c1
      go_loopw [7] (fun vw wr => ∃ (x : Nat) (T : Nat → Nat → Int), 1 ≤ x ∧ x ≤ w + 1 ∧ vw = .int .i64 (x : Int) ∧ FewT T ∧ DoneT (tabC opG u) w T y x ∧ HeldB wr W.heap.size 36 #[.int .i64 (w : Int), .int .i64 (h : Int)] ∧ HeldB wr (W.heap.size + 1) 72 (tbC T) ∧ Below W.heap.size W wr) (fun vw _ => w + 1 - (intOf vw).toNat)
      case atStart => exact ⟨1, T, Nat.le_refl _, by omega, rfl, hF.out, hD.out, hH, hK, hb⟩
      case round =>
        clear hH hK hb hF hD T
        obtain ⟨x, T, hx1, hx2, rfl, hF, hD, hH, hK, hb⟩ := hrel
        replace hF := Lib.hid hF
        replace hD := Lib.hid hD
        have c0 : wr.cell? ⟨W.heap.size, 0, none⟩ = some (.int .i64 (w : Int)) := hH.cell 0
        have c1 : wr.cell? ⟨W.heap.size, 1, none⟩ = some (.int .i64 (h : Int)) := hH.cell 1
        by_cases hlx : x ≤ w
        · have HV := Lib.hid (hD.out.value hx1 hlx hy1)
          have HFN := Lib.hid (hF.out.upd (w := x) (k := y) (hu x y (by omega) (by omega) hx1 hy1))
          have HDN := Lib.hid (hD.out.next hx1)
          have HTR := Lib.hid (fun (W' : World) (hB : HeldB W' (W.heap.size + 1) 72 (tbC T)) => HTRY.out (W.heap.size + 1) x y T (by omega) (by omega) hF.out W' hB)
          rw [HV.out] at HTR
          have HUU := Lib.hid (fun (W' : World) (hb : Below W.heap.size W W') => HU.out x y W' hx1 (by omega) hy1 (by omega) hb)
          obtain ⟨ux, hux⟩ : ∃ v, u x y = v := ⟨_, rfl⟩
          obtain ⟨tx, htx⟩ : ∃ v, tabC opG u x y = v := ⟨_, rfl⟩
          rw [hux] at HTR HUU
          rw [htx] at HTR HFN HDN
          clear hux htx HV hD
          go_wp2
          have kx : HeldB (wr.alloc (.cells #[.int .i64 (x : Int), .int .i64 (y : Int)] 36)) wr.heap.size 36 #[.int .i64 (x : Int), .int .i64 (y : Int)] := HeldB.new wr _ _
          have hHl := hH.lt
          have hKl := hK.lt
          replace hH := hH.alloc (.cells #[.int .i64 (x : Int), .int .i64 (y : Int)] 36)
          replace hK := hK.alloc (.cells #[.int .i64 (x : Int), .int .i64 (y : Int)] 36)
          replace hb := hb.alloc hb.size (.cells #[.int .i64 (x : Int), .int .i64 (y : Int)] 36)
          clear c0 c1
          generalize wr.alloc (.cells #[.int .i64 (x : Int), .int .i64 (y : Int)] 36) = w1 at *
          generalize wr.heap.size = gx at *
          refine wp_region_held (S := fun W' => HeldB W' gx 36 #[.int .i64 (x : Int), .int .i64 (y : Int)]) (by kernel_rfl) ?_
          replace kx : HeldB ({ w1 with drawn := w1.drawn + 1 } : World) gx 36 #[.int .i64 (x : Int), .int .i64 (y : Int)] := kx
          replace hH : HeldB ({ w1 with drawn := w1.drawn + 1 } : World) W.heap.size 36 #[.int .i64 (w : Int), .int .i64 (h : Int)] := hH
          replace hK : HeldB ({ w1 with drawn := w1.drawn + 1 } : World) (W.heap.size + 1) 72 (tbC T) := hK
          replace hb : Below W.heap.size W ({ w1 with drawn := w1.drawn + 1 } : World) := hb.trans (below_drewN _ _ 1)
          generalize ({ w1 with drawn := w1.drawn + 1 } : World) = w2 at *
          change Go.wpAnyH Try.prog Region.Mode.any _ _ _ 5 (Array.replicate 5 false) _ _
          refine wpAnyH_take (i := 0) (v := .agg #[.int .i64 (x : Int), .int .i64 (y : Int)]) rfl (by kernel_rfl) (by kernel_rfl) (by kernel_rfl) (fun _ _ _ h => h) (shYields_row (by rfl) 36 _ rfl gx (by rfl) 36 _ _ (fun _ h => h) Try.underlying36 rfl (by kernel_rfl)) kx ?_
          refine wpAnyH_take (i := 1) (v := .func (.func 47) #[] #[cb]) rfl (by kernel_rfl) (by kernel_rfl) (by kernel_rfl) (fun _ _ _ h => h) (Yields.yieldsIf (Or.inl ⟨by rfl, fun w => by go_simp⟩)) kx ?_
          refine wpAnyH_take (i := 2) (v := .agg #[.int .i64 (x : Int), .int .i64 (y : Int)]) rfl (by kernel_rfl) (by kernel_rfl) (by kernel_rfl) (fun _ _ _ h => h) (shYields_row (by rfl) 36 _ rfl gx (by rfl) 36 _ _ (fun _ h => h) Try.underlying36 rfl (by kernel_rfl)) kx ?_
          refine wpAnyH_all (rs := [3]) (by kernel_rfl) (by decide) ?_
          intro i' hi'
          simp only [List.mem_cons, List.not_mem_nil, or_false] at hi'
          subst hi'
          refine shOp_go rfl (by rfl) ?_
          unfold Oper.wp
          go_simp
          refine (HUU.out _ hb).mono ?_
          rintro e w3 ⟨rfl, hb3⟩
          replace kx := kx.below hb3
          replace hH := hH.below hb3
          replace hK := hK.below hb3
          replace hb := below_step hb hb.size hb3
          clear hb3 HUU
          refine ⟨kx, ?_⟩
          refine wpAnyH_all (rs := [4]) (by kernel_rfl) (by decide) ?_
          intro i' hi'
          simp only [List.mem_cons, List.not_mem_nil, or_false] at hi'
          subst hi'
          refine shOp_go rfl (by rfl) ?_
          unfold Oper.wp
          go_simp
          refine (HTR.out _ hK).mono ?_
          rintro e w4 ⟨⟨v4, rfl⟩, hK4, hg4⟩
          replace kx := kx.kept hg4 (by simp; omega)
          replace hH := hH.kept hg4 (by simp)
          replace hb : Below W.heap.size W w4 := hb.grown hg4 hb.size (fun k e => by cases e; omega)
          clear hg4 hK HTR
          refine ⟨kx, ?_⟩
          refine wpAnyH_done (by kernel_rfl) ?_ _
          go_wp2
          go_roundw
          case rel => exact ⟨x + 1, _, by omega, by omega, by go_num, HFN.out, HDN.out, hH, hK4, hb⟩
          case measure => simp [intOf]; omega
        · have hdf : decide ((x : Int) ≤ (w : Int)) = false := by rw [decide_eq_false_iff_not]; omega
          have HDN := Lib.hid (show DoneT (tabC opG u) w T (y + 1) 1 from hD.out.row (by omega))
          clear hD
          go_wp2
          go_roundw
          case rel => exact ⟨y + 1, T, by omega, by omega, by go_num, hF.out, HDN.out, hH, hK, hb⟩
          case measure => simp [intOf]; omega
    · have hdf : decide ((y : Int) ≤ (h : Int)) = false := by rw [decide_eq_false_iff_not]; omega
      have HOF1 := Lib.hid (fun (W' : World) (hB : HeldB W' (W.heap.size + 1) 72 (tbC T)) => HOF.out (W.heap.size + 1) T W' hB)
      rw [hD.out w h hw1 (Nat.le_refl _) hh1 (.inl (by omega))] at HOF1
      clear hD
      go_wp2_with (first
        | (refine wpList_load_row rfl 36 _ rfl W.heap.size rfl 36 #[.int .i64 (w : Int), .int .i64 (h : Int)] (0, 0) _ hH Try.underlying36 rfl (by kernel_rfl) ?_)
        | (go_at_call 55; refine (HOF1.out _ hK).mono ?_; rintro e w5 ⟨rfl, hb5⟩; clear HOF1))
      go_ret
      exact ⟨rfl, below_step hb hb.size hb5⟩

end Go.Proofs.Ytfemfmkgdgcemaa
