
/-
  The program's cut text. (Walks.)
-/
import Derived.Test.YtcndlfkmmgdpaaaGui4
namespace Go.Proofs.Ytcndlfkmmgdpaaa
open Go.RowKit

theorem tree_text_size {g : Nat → Nat → Nat} : ∀ (n : Nat) (R : Rc) (t : Tr), R.tree g n = some t → (textT t).size ≤ 4 ^ n
  | 0, _, _, h => by cases h
  | n + 1, R, t, h => by
    have h4 : (4 : Nat) ^ (n + 1) = 4 * 4 ^ n := by rw [Nat.pow_succ, Nat.mul_comm]
    have h41 : 1 ≤ (4 : Nat) ^ n := Nat.pow_pos (by omega)
    cases h1 : R.one g
    · cases hc : (R.cuts g).head? with
      | none => rw [Rc.tree_no h1 hc] at h; cases h
      | some c =>
        rw [Rc.tree_join h1 hc] at h
        obtain ⟨x, y, e1, e2, rfl⟩ := joinT_some h
        have i1 := tree_text_size n _ _ e1
        have i2 := tree_text_size n _ _ e2
        have hl : (letterW c.1).size = 1 := by unfold letterW; split <;> rfl
        show (letterW c.1 ++ textT x ++ textT y).size ≤ _
        rw [size_app, size_app, hl]; omega
    · rw [Rc.tree_one h1] at h
      cases h
      show 1 ≤ _
      omega
set_option maxRecDepth 100000 in
theorem letter_any (c : Nat × Nat) (w : World) (h1 : c.1 < 2) : Calls Try.prog 78 #[.agg (ctC c)] w fun e w' => e = .returned (.string (letterW c.1)) ∧ Below w.heap.size w w' := by
  have hb := below_alloc w (.cells (ctC c) 86)
  obtain ⟨way, line⟩ := c
  unfold ctC at *
  simp only at h1 hb ⊢
  rcases (show way = 0 ∨ way = 1 by omega) with h0 | h0
  · subst h0
    rw [show ((0 : Nat) : Int) = 0 from rfl] at hb ⊢
    go_enter Try.func78, Try.ntmps78
    go_wp2
    go_ret
    exact ⟨rfl, hb⟩
  · subst h0
    rw [show ((1 : Nat) : Int) = 1 from rfl] at hb ⊢
    go_enter Try.func78, Try.ntmps78
    go_wp2
    go_ret
    exact ⟨rfl, hb⟩
theorem enc_letter : ∀ a, a < 9 → Utf8.encode (65 + ((a : Nat) : Int)) = ⟨#[UInt8.ofNat (65 + a)]⟩ := by decide +kernel
set_option maxRecDepth 100000 in
theorem text1_any (a : Nat) (w : World) (h : a < 9) : Calls Try.prog 75 #[.int .i64 ((a : Nat) : Int)] w fun e w' => e = .returned (.string ⟨#[UInt8.ofNat (65 + a)]⟩) ∧ Below w.heap.size w w' := by
  have HE := Lib.hid (enc_letter a h)
  have h1 : IntKind.i64.wrap (65 + (a : Int)) = 65 + (a : Int) := IntWalk.i64_in _ (by omega)
  have h2 : IntKind.i32.wrap (65 + (a : Int)) = 65 + (a : Int) := by simp [IntKind.wrap, IntKind.bits, IntKind.signed]; omega
  obtain ⟨bt, hbt⟩ : ∃ bt, UInt8.ofNat (65 + a) = bt := ⟨_, rfl⟩
  rw [hbt] at HE ⊢
  clear hbt
  go_enter Try.func75, Try.ntmps75
  go_wp2
  go_ret
  exact ⟨by rw [← HE.out]; rfl, Below.refl _ _⟩
set_option maxRecDepth 100000 in
set_option maxHeartbeats 2000000 in
theorem text2_any (c : Nat × Nat) (s t : ByteArray) (w : World) (h1 : c.1 < 2) (hs : s.size ≤ 16777216) (ht : t.size ≤ 16777216) : Calls Try.prog 77 #[.agg (ctC c), .string s, .string t] w fun e w' => e = .returned (.string (letterW c.1 ++ s ++ t)) ∧ Below w.heap.size w w' := by
  have HL := Lib.hid (fun w => letter_any c w h1)
  have hb := below_alloc w (.cells (ctC c) 86)
  have hl : (letterW c.1).size = 1 := by unfold letterW; split <;> rfl
  have hc1 : (9223372036854775807 < (letterW c.1).size + s.size) = False := by simp only [eq_iff_iff, iff_false]; omega
  have hc2 : (9223372036854775807 < (letterW c.1).size + s.size + t.size) = False := by simp only [eq_iff_iff, iff_false]; omega
  clear hl hs ht h1
  generalize letterW c.1 = l at *
  obtain ⟨way, line⟩ := c
  unfold ctC at *
  simp only at HL hb
  go_enter Try.func77, Try.ntmps77
  go_wp2_with (go_at_call 78; refine (HL.out _).mono ?_; rintro e w1 ⟨rfl, hb1⟩)
  go_ret
  exact ⟨rfl, below_step hb hb.size hb1⟩

set_option maxRecDepth 100000 in
set_option maxHeartbeats 4000000 in
theorem alongS_any {h wd : Nat} {g : Nat → Nat → Nat} {r : Nat} {bx : Nat → Bx} (B : Boxy h wd g r bx) : ∀ (n : Nat) (R : Rc) (t : Tr) (po : Option Addr) (cap : Nat) (w : World), R.Clo g h wd → R.h + R.w ≤ n → n ≤ 12 → R.tree g n = some t → CellsAt w po (plL bx (R.rooms g r)) →
    Calls Try.prog 76 #[.slice po (R.rooms g r).length cap, .func (.func 75) #[] #[], .func (.func 77) #[] #[]] w fun e w' => e = .returned (.string (textT t)) ∧ Below w.heap.size w w'
  | 0, R, _, _, _, _, C, hn, _, _, _ => by have := C.fit.h1; omega
  | n + 1, R, t, po, cap, w, C, hn, h12, htr, hc => by
    have HIH := Lib.hid (fun R t po cap w C hn htr hc => alongS_any B n R t po cap w C hn (by omega) htr hc)
    have HCU := Lib.hid (cutsR_any B R C po cap w hc)
    have hone := B.one_len C
    have hpos := B.rooms_pos C
    cases h1 : R.one g
    · rw [h1] at hone
      have hlen : ((R.rooms g r).length == 1) = false := by
        rw [beq_eq_false_iff_ne]; intro h
        rw [decide_eq_true h] at hone; cases hone
      have hlenI : (((R.rooms g r).length : Int) == 1) = false := by
        rw [beq_eq_false_iff_ne] at hlen ⊢; omega
      cases hcc : (R.cuts g).head? with
      | none => rw [Rc.tree_no h1 hcc] at htr; cases htr
      | some c =>
        rw [Rc.tree_join h1 hcc] at htr
        obtain ⟨x, y, ex, ey, rfl⟩ := joinT_some htr
        have hmem := head_cut hcc
        have hm := Rc.cuts_mem hmem
        have HAP := Lib.hid (fun w hc => apartR_any B R C c hmem po cap w hc)
        have HF1 := Rc.fit_left C.fit hm.2.1; have HF2 := Rc.fit_right C.fit hm.2.1
        have HL := Lib.hid (fun po cap w hc => HIH.out (R.left c) x po cap w (C.left B.rect hm.2.1 hm.2.2) (by omega) ex hc)
        have HR := Lib.hid (fun po cap w hc => HIH.out (R.right c) y po cap w (C.right B.rect hm.2.1 hm.2.2) (by omega) ey hc)
        have h4n : (4 : Nat) ^ n ≤ 4 ^ 12 := Nat.pow_le_pow_right (by omega) (by omega)
        rw [show (4 : Nat) ^ 12 = 16777216 by decide] at h4n
        have HT2 := Lib.hid (fun w => text2_any c (textT x) (textT y) w hm.1 (Nat.le_trans (tree_text_size n _ _ ex) h4n) (Nat.le_trans (tree_text_size n _ _ ey) h4n))
        have hk := ctL_at hcc
        have hkl : 0 < (R.cuts g).length := List.length_pos_of_mem hmem
        have HC := Lib.hid hc
        have HCT := Lib.hid (show (Try.prog.info? 86).map (·.size) = some (ctC c).toList.length by rw [Try.sizeCt]; rfl)
        have HTX := Lib.hid (show letterW c.1 ++ textT x ++ textT y = textT (Tr.cut c.1 c.2 x y) from rfl)
        generalize textT (Tr.cut c.1 c.2 x y) = TX at *
        generalize letterW c.1 ++ textT x ++ textT y = TL at *
        generalize textT x = tx at *
        generalize textT y = ty at *
        clear h1 hone hcc HIH hc hpos hlen hmem hm HF1 HF2 h4n ex ey htr
        generalize R.left c = RL at *
        generalize R.right c = RR at *
        generalize (R.cuts g).length = kl at *
        generalize ctL (R.cuts g) = CL at *
        have hklI : (0 : Int) < (kl : Int) := by omega
        unfold ctC at HAP HT2 HCT
        simp only at HAP HT2 HCT
        have bC1 := fun (w1 : World) => HeldB.new w1 86 #[.int .i64 ((c.1 : Nat) : Int), .int .i64 ((c.2 : Nat) : Int)]
        have BC1 := Lib.hid bC1
        clear bC1
        go_enter Try.func76, Try.ntmps76
        go_wp2_with fail
        refine HCU.out.mono ?_
        rintro e w1 ⟨ro, rc, rfl, hcl, hb1⟩
        obtain ⟨kb, ko, rfl, k0⟩ := hcl 0 _ hk.1
        obtain ⟨kb', ko', e2, k1⟩ := hcl 1 _ hk.2
        cases e2
        rw [Nat.add_zero] at k0
        clear hcl
        have bC := BC1.out w1
        have hb2 := hb1.alloc hb1.size (.cells #[.int .i64 ((c.1 : Nat) : Int), .int .i64 ((c.2 : Nat) : Int)] 86)
        have hc2 := HC.out.below hb2
        go_wp2_with fail
        clear k0 k1 HCU
        refine (HAP.out _ hc2).mono ?_
        rintro e w3 ⟨ra, ca, rb, cb, rfl, hca, hcb, hb3⟩
        have hb4 := below_step hb2 hb2.size hb3
        have bC3 := (bC.below hb3).range
        have HL2 := Lib.hid (fun (d : Nat) (os : Array Obj) => Calls.regrown_of (HL.out ra ca (Sort.grow (redrawn w3 d) os) (hca.below (below_regrown w3 d os))))
        have HR2 := Lib.hid (fun (d : Nat) (os : Array Obj) => Calls.regrown_of (HR.out rb cb (Sort.grow (redrawn w3 d) os) (hcb.below (below_regrown w3 d os))))
        have HX2 := Lib.hid (fun (d : Nat) (os : Array Obj) => Calls.regrown_of (HT2.out (Sort.grow (redrawn w3 d) os)))
        have HRC := Lib.hid (range_regrown bC3)
        clear HAP HL HR HT2 hb1 hb2 hb3 bC bC3 hca hcb hc2 HC
        go_wp2
        refine wp_region_quiet_below (by kernel_rfl) (by kernel_rfl) ?_
        repeat (first | go_big_quiet_step (fail))
        refine wpQuiet_load_mid (by rfl) 86 _ rfl w1.heap.size 0 (by rfl) [.int .i64 ((c.1 : Nat) : Int), .int .i64 ((c.2 : Nat) : Int)] #[.int .i64 ((c.1 : Nat) : Int), .int .i64 ((c.2 : Nat) : Int)] rfl _ HRC.out Try.underlying86 rfl HCT.out ?_
        go_simp
        repeat (first | go_big_quiet_step (with_reducible exact HL2.out _ _) | quiet_step (with_reducible exact HL2.out _ _))
        repeat (first | go_big_quiet_step (with_reducible exact HR2.out _ _) | quiet_step (with_reducible exact HR2.out _ _))
        repeat (first | go_big_quiet_step (with_reducible exact HX2.out _ _) | quiet_step (with_reducible exact HX2.out _ _))
        refine wpQuiet_nil ?_
        intro r7
        have hb7 := hb4.trans ((below_regrown w3 r7.d r7.os).mono hb4.size)
        generalize Sort.grow (redrawn w3 r7.d) r7.os = W7 at *
        go_wp2
        go_ret
        exact ⟨by rw [← HTX.out]; rfl, hb7⟩
    · rw [h1] at hone
      have hlen : (R.rooms g r).length = 1 := of_decide_eq_true hone.symm
      have hrm := Rc.rooms_one C.fit B.lt h1
      rw [Rc.tree_one h1] at htr
      cases htr
      have hlt := B.lt R.r0 R.c0 (by have := C.fit.h1; have := C.fit.hh; omega) (by have := C.fit.w1; have := C.fit.hw; omega)
      have h9 := B.few
      have HTX := Lib.hid (fun w => text1_any (g R.r0 R.c0) w (by omega))
      rw [hrm] at hc
      rw [hlen]
      obtain ⟨b0, o0, rfl, k0⟩ := hc 0 _ (plL_at (bx := bx) (L := [g R.r0 R.c0]) (k := 0) (by simp))
      rw [Nat.add_zero] at k0
      have k1 : w.cell? ⟨b0, o0, none⟩ = some (.int .i64 ((g R.r0 R.c0 : Nat) : Int)) := k0
      have HT := Lib.hid (show textT (Tr.room (g R.r0 R.c0)) = ⟨#[UInt8.ofNat (65 + g R.r0 R.c0)]⟩ from rfl)
      generalize textT (Tr.room (g R.r0 R.c0)) = TX at *
      generalize (⟨#[UInt8.ofNat (65 + g R.r0 R.c0)]⟩ : ByteArray) = TY at *
      generalize g R.r0 R.c0 = v at *
      clear h1 hone HIH HCU hlen k0 hc hrm hpos
      go_enter Try.func76, Try.ntmps76
      go_wp2_with fail
      refine (HTX.out _).mono ?_
      rintro e w1 ⟨rfl, hb1⟩
      go_wp2
      go_ret
      exact ⟨by rw [HT.out]; rfl, hb1⟩
set_option maxRecDepth 100000 in
set_option maxHeartbeats 2000000 in
theorem implCutText_any (ao : Option Addr) (cap : Nat) (p : List ByteArray) (w : World) (hl : p.length ≤ 1048576) (hs : ∀ s ∈ p, s.size ≤ 1048576) (hc : CellsAt w ao (p.map Value.string)) :
    Calls Try.prog 17 #[.slice ao p.length cap] w fun e w' => e = .returned (.tuple #[.string (textP p), .bool (treeP p).isSome]) ∧ Below w.heap.size w w' := by
  have HR := Lib.hid (readCuttable_any ao cap p w hl hs hc)
  unfold textP
  cases hT : treeP p with
  | none =>
    unfold CutRet at HR
    rw [hT] at HR
    clear hT
    go_enter Try.func17, Try.ntmps17
    go_wp2_with (go_at_call 34; refine HR.out.mono ?_; rintro e w1 ⟨⟨ro, m, rc, rfl, -⟩, hb1⟩)
    go_ret2
    exact ⟨rfl, hb1⟩
  | some t =>
    have h : planB p = true := by
      cases hp : planB p
      · rw [treeP_no hp] at hT; cases hT
      · rfl
    have hT2 := hT
    rw [treeP_yes h] at hT2
    have HAL := Lib.hid (fun po cap w hc => alongS_any (boxy_of (planP_of h)) 12 (allR p) t po cap w (allR_clo h) (allR_fit h).2 (Nat.le_refl _) hT2 hc)
    rw [allR_rooms h, List.length_range] at HAL
    unfold CutRet at HR
    rw [hT] at HR
    have HP := Lib.hid h
    clear hT hT2 h
    change Calls Try.prog _ _ w fun e w' => e = .returned (.tuple #[.string (textT t), .bool true]) ∧ _
    generalize textT t = TX at *
    go_enter Try.func17, Try.ntmps17
    go_wp2_with fail
    refine HR.out.mono ?_
    rintro e w1 ⟨⟨ro, m, rc, rfl, hcl⟩, hb1⟩
    obtain ⟨rfl, hcl2⟩ := hcl HP.out
    clear hcl
    have HTT : Calls Try.prog 43 #[.slice ro (gridR p) rc] w1 fun e w' => e = .returned (.string TX) ∧ Below w1.heap.size w1 w' := by
      have HAL2 := Lib.hid (HAL.out ro rc w1 hcl2)
      go_enter Try.func43, Try.ntmps43
      go_wp2_with (go_at_call 76; refine HAL2.out.mono ?_; rintro e w2 ⟨rfl, hb2⟩)
      go_ret
      exact ⟨rfl, hb2⟩
    have HTT2 := Lib.hid HTT
    clear HTT HAL hcl2
    go_wp2_with (go_at_call 43; refine HTT2.out.mono ?_; rintro e w2 ⟨rfl, hb2⟩)
    go_ret2
    exact ⟨rfl, below_step hb1 hb1.size hb2⟩

end Go.Proofs.Ytcndlfkmmgdpaaa
