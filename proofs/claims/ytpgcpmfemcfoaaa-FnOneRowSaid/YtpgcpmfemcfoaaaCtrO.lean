/-
  The program's CountOrders. (Walks.)
-/
import Derived.Test.YtpgcpmfemcfoaaaCtqO

namespace Go.Proofs.Ytpgcpmfemcfoaaa
open Go.RowKit Go.Shelf

def ordQ (rooms : Nat) (p : List ByteArray) : Bool := decide (gridR p = rooms) && plainB p
/-- the permutations of the plain plans of so many rooms, in order -/
def ordM (h wd rooms : Nat) : List (List Int) := (asked (ordQ rooms) h wd (allZ h wd)).map (prmZ h wd)
def ordN (h wd rooms : Nat) : Nat := (firsts (ordM h wd rooms)).length
def ordOk (n m k : Int) : Bool := frOk n m && isN k
def ordR (n m k : Int) : Int := if ordOk n m k = true then ((ordN n.toNat m.toNat k.toNat : Nat) : Int) else 0
theorem ordM_len {h wd rooms : Nat} (hh : h ≤ 6) (hw : wd ≤ 6) (h9 : h * wd ≤ 9) : (ordM h wd rooms).length ≤ 1000000 := by
  unfold ordM asked
  rw [List.length_map]
  exact Nat.le_trans (List.length_filter_le _ _) (allZ_few hh hw h9)
theorem asked_leaf {h wd rooms : Nat} (d1 : 1 ≤ h) (d6 : h ≤ 6) (e1 : 1 ≤ wd) (e6 : wd ≤ 6) (h9 : h * wd ≤ 9) (r7 : rooms ≤ 7) : ∀ x ∈ asked (ordQ rooms) h wd (allZ h wd), x ∈ allZ h wd ∧ Leaf h wd x ∧ plainB (txtZ h wd x.2) = true ∧ gridR (txtZ h wd x.2) ≤ 7 := fun x hx => by
  obtain ⟨h1, h2⟩ := List.mem_filter.1 hx
  unfold ordQ at h2
  rw [Bool.and_eq_true, decide_eq_true_eq] at h2
  exact ⟨h1, leaf d1 d6 e1 e6 h9 h1, h2.2, by omega⟩

set_option maxRecDepth 100000 in
theorem plainF_any (h wd rooms : Nat) (w : World) :
    Calls Try.prog 53 #[.agg #[.int .i64 (h : Int), .int .i64 (wd : Int)], .int .i64 (rooms : Int)] w
      fun e w' => ∃ Bf Br, e = .returned (.func (.func 106) #[] #[.pointer (some ⟨Bf, 0, none⟩), .pointer (some ⟨Bf + 1, 0, none⟩)]) ∧ HeldB w' Bf 77 #[.int .i64 (h : Int), .int .i64 (wd : Int)] ∧
        HeldB w' (Bf + 1) 70 #[.func (.func 85) #[] #[.pointer (some ⟨Br, 0, none⟩)]] ∧ HeldB w' Br 3 #[.int .i64 (rooms : Int)] ∧ Below w.heap.size w w' := by
  have hB := HeldB.new (w.alloc (.cells #[.int .i64 (h : Int), .int .i64 (wd : Int)] 77)) 3 #[.int .i64 (rooms : Int)]
  rw [World.size_alloc] at hB
  have hb := (below_alloc w (.cells #[.int .i64 (h : Int), .int .i64 (wd : Int)] 77)).alloc (by simp) (.cells #[.int .i64 (rooms : Int)] 3)
  have HPL := Lib.hid (fun w Br => plans_any h wd (.func (.func 85) #[] #[.pointer (some ⟨Br, 0, none⟩)]) rfl w)
  go_enter Try.func53, Try.ntmps53
  go_wp2_with fail
  refine (HPL.out _ _).mono ?_
  rintro e w2 ⟨B, rfl, hBB, h1, h2, hb2⟩
  clear hBB
  go_wp2
  go_ret
  exact ⟨B, w.heap.size + 1, rfl, h1, h2, hB.below hb2, below_step hb hb.size hb2⟩

set_option maxRecDepth 100000 in
set_option maxHeartbeats 8000000 in
theorem implCountOrders_yes {h wd rooms : Nat} (d1 : 1 ≤ h) (d6 : h ≤ 6) (e1 : 1 ≤ wd) (e6 : wd ≤ 6) (h9 : h * wd ≤ 9) (r1 : 1 ≤ rooms) (r7 : rooms ≤ 7) (w : World) :
    Calls Try.prog 24 #[.int .i64 (h : Int), .int .i64 (wd : Int), .int .i64 (rooms : Int)] w fun e w' => e = .returned (.tuple #[.int .i64 ((ordN h wd rooms : Nat) : Int), .bool true]) ∧ Below w.heap.size w w' := by
  have HRF := Lib.hid (fun w => readFrame_any (h : Int) (wd : Int) w)
  rw [(frOk_of d1 d6 e1 e6 h9).1, (frOk_of d1 d6 e1 e6 h9).2] at HRF
  have HIL := Lib.hid (fun w => isLength_any (rooms : Int) w)
  rw [isN_yes (by omega) (by omega)] at HIL
  have HPL := Lib.hid (fun w => plainF_any h wd rooms w)
  have HTK := Lib.hid (fun (w : World) (b : Nat) (L0 : List (List Int)) (Bf Br : Nat) (hm : CntG 85 litQ domQ w b L0) (hBf : HeldB w Bf 77 #[.int .i64 (h : Int), .int .i64 (wd : Int)]) (hBq : HeldB w (Bf + 1) 70 #[.func (.func 85) #[] #[.pointer (some ⟨Br, 0, none⟩)]]) (hBr : HeldB w Br 3 #[.int .i64 (rooms : Int)]) =>
    callsIn_wide.1 (takePerm_in 40 h wd (by omega) (asked (ordQ rooms) h wd (allZ h wd)) (asked_leaf d1 d6 e1 e6 h9 r7) (Nat.le_trans (List.length_filter_le _ _) (allZ_few d6 e6 h9)) Bf (Bf + 1) w (fun W => HeldB W Bf 77 #[.int .i64 (h : Int), .int .i64 (wd : Int)] ∧ HeldB W (Bf + 1) 70 #[.func (.func 85) #[] #[.pointer (some ⟨Br, 0, none⟩)]] ∧ HeldB W Br 3 #[.int .i64 (rooms : Int)])
      ((heldB_stays hBf.lt _ _).and ((heldB_stays hBq.lt _ _).and (heldB_stays hBr.lt _ _))) (fun l J W1 hJ hJI hY hj => plansItR_in d6 e6 (ordQ rooms) Br Bf (Bf + 1) 39 l (by omega) J W1 (fun y hy s w hs => askPlain_any (leaf d1 d6 e1 e6 h9 hy) hy Br w (hJI s w hs).2.2) hJ (fun s W h => ⟨(hJI s W h).1, (hJI s W h).2.1⟩) hY hj) b L0 hm ⟨hBf, hBq, hBr⟩))
  have HMM := Lib.hid (show (asked (ordQ rooms) h wd (allZ h wd)).map (prmZ h wd) = ordM h wd rooms from rfl)
  rw [HMM.out] at HTK
  unfold ordN
  have hml := ordM_len (rooms := rooms) d6 e6 h9
  generalize ordM h wd rooms = M at *
  have hmm := @run_makeMap Try.prog
  clear HMM
  go_enter Try.func24, Try.ntmps24
  go_wp2_with (first
    | (go_at_call 50; refine (HRF.out _).mono ?_; rintro e w1 ⟨rfl, hb1⟩)
    | (go_at_call 51; refine (HIL.out _).mono ?_; rintro e w9 ⟨rfl, rfl⟩)
    | (go_at_call 53; refine (HPL.out _).mono ?_; rintro e w2 ⟨Bf, Br, rfl, hBf, hBq, hBr, hb2⟩))
  have hmp : CntG 85 litQ domQ w2 (w1.heap.size + 1) [] := by
    have := (CntG.made (K := 85) (lit := litQ) (dom := domQ) (w1.alloc (.cells #[.int .i64 (h : Int), .int .i64 (wd : Int)] 77))).below hb2
    rwa [World.size_alloc] at this
  have hB2 := below_step (((hb1.alloc hb1.size (.cells #[.int .i64 (h : Int), .int .i64 (wd : Int)] 77))).alloc (by have := hb1.size; simp; omega) (.map #[] 0)) (by have := hb1.size; simp; omega) hb2
  have hs1 := hb1.size
  refine (HTK.out w2 (w1.heap.size + 1) [] Bf Br hmp hBf hBq hBr).mono ?_
  rintro e w3 ⟨rfl, hm3, hg3⟩
  have hB3 : Below w.heap.size w w3 := hB2.grown hg3 (Nat.le_trans hs1 (by have := hmp.lt; omega)) (fun k hk => by simp only [Option.some.injEq] at hk; omega)
  obtain ⟨hdm, D, hown, _, _, hsz⟩ := hm3
  have hlen := hown.len key_perm.und 3
  rw [hsz] at hlen
  clear hb1 hb2 hBf hBq hBr hmp hB2 HTK HPL HRF hmm hdm hown hsz hg3
  go_wp2
  go_ret2
  exact ⟨rfl, hB3⟩
set_option maxRecDepth 100000 in
set_option maxHeartbeats 4000000 in
theorem implCountOrders_any (n m k : Int) (w : World) : Calls Try.prog 24 #[.int .i64 n, .int .i64 m, .int .i64 k] w fun e w' => e = .returned (.tuple #[.int .i64 (ordR n m k), .bool (ordOk n m k)]) ∧ Below w.heap.size w w' := by
  cases h : ordOk n m k
  · have e0 : ordR n m k = 0 := by unfold ordR; rw [h]; rfl
    rw [e0]
    unfold ordOk at h
    clear e0
    cases h1 : frOk n m
    · have HRF := Lib.hid (fun w => readFrame_any n m w)
      have e1 : frC n m = #[.int .i64 0, .int .i64 0] := by unfold frC; rw [h1]; rfl
      rw [h1, e1] at HRF
      clear h h1 e1
      go_enter Try.func24, Try.ntmps24
      go_wp2_with (go_at_call 50; refine (HRF.out _).mono ?_; rintro e w1 ⟨rfl, hb1⟩)
      go_ret2
      exact ⟨rfl, hb1.alloc hb1.size _⟩
    · rw [h1, Bool.true_and] at h
      obtain ⟨a, b, rfl, rfl, a1, a6, b1, b6, h9⟩ := frOk_dims h1
      have HRF := Lib.hid (fun w => readFrame_any (a : Int) (b : Int) w)
      rw [h1, (frOk_of a1 a6 b1 b6 h9).2] at HRF
      have HIL := Lib.hid (fun w => isLength_any k w)
      rw [h] at HIL
      clear h h1 a1 a6 b1 b6 h9
      go_enter Try.func24, Try.ntmps24
      go_wp2_with (first
        | (go_at_call 50; refine (HRF.out _).mono ?_; rintro e w1 ⟨rfl, hb1⟩)
        | (go_at_call 51; refine (HIL.out _).mono ?_; rintro e w9 ⟨rfl, rfl⟩))
      go_ret2
      exact ⟨rfl, hb1.alloc hb1.size _⟩
  · have h0 := h
    unfold ordOk at h
    rw [Bool.and_eq_true] at h
    obtain ⟨h1, h2⟩ := h
    obtain ⟨a, b, rfl, rfl, a1, a6, b1, b6, h9⟩ := frOk_dims h1
    unfold isN at h2
    rw [Bool.and_eq_true, decide_eq_true_eq, decide_eq_true_eq] at h2
    obtain ⟨r, rfl⟩ := Int.eq_ofNat_of_zero_le (show 0 ≤ k by omega)
    have := implCountOrders_yes (rooms := r) a1 a6 b1 b6 h9 (by omega) (by omega) w
    unfold ordR
    rw [h0, if_pos rfl]
    exact this
end Go.Proofs.Ytpgcpmfemcfoaaa
