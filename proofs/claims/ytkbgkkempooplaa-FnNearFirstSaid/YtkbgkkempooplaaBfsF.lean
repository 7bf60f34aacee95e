
/-
  The greatest of the fewest steps: both answers. (Walks.)
-/
import Derived.Test.YtkbgkkempooplaaBfsW

namespace Go.Proofs.Ytkbgkkempooplaa
open Go.RowKit

/-- the greatest of the first numbers -/
def mxF (f : Nat → Nat) : Nat → Nat
  | 0 => 0
  | k + 1 => max (mxF f k) (f k)
theorem mxF_le {f : Nat → Nat} {m : Nat} (h : ∀ i, f i ≤ m) : ∀ n, mxF f n ≤ m
  | 0 => Nat.zero_le _
  | n + 1 => by show max _ _ ≤ _; have := mxF_le h n; have := h n; omega
theorem mxF_ge {f : Nat → Nat} {n i : Nat} (h : i < n) : f i ≤ mxF f n := by
  induction n with
  | zero => omega
  | succ n ih =>
    show _ ≤ max _ _
    by_cases he : i = n
    · subst he; omega
    · have := ih (by omega); omega
theorem mxF_some (f : Nat → Nat) : ∀ n, 0 < n → ∃ i, i < n ∧ mxF f n = f i
  | 1, _ => ⟨0, by omega, by show max 0 (f 0) = f 0; exact Nat.max_eq_right (Nat.zero_le _)⟩
  | n + 2, _ => by
    obtain ⟨i, hi, he⟩ := mxF_some f (n + 1) (by omega)
    by_cases h : f (n + 1) ≤ f i
    · exact ⟨i, by omega, by show max (mxF f (n + 1)) (f (n + 1)) = f i; omega⟩
    · exact ⟨n + 1, by omega, by show max (mxF f (n + 1)) (f (n + 1)) = f (n + 1); omega⟩
theorem mxF_zeros {f : Nat → Nat} {n : Nat} (h : ∀ i, n ≤ i → f i = 0) : ∀ k, mxF f (n + k) = mxF f n
  | 0 => rfl
  | k + 1 => by show max (mxF f (n + k)) (f (n + k)) = _; rw [mxF_zeros h k, h (n + k) (by omega)]; omega
theorem mxF_congr {f g : Nat → Nat} {n : Nat} (h : ∀ i, i < n → f i = g i) : mxF f n = mxF g n := by
  induction n with
  | zero => rfl
  | succ n ih => show max _ _ = max _ _; rw [ih (fun i hi => h i (by omega)), h n (by omega)]
theorem max_mx (y z : Nat) : (if y < z then (z : Int) else (y : Int)) = ((max y z : Nat) : Int) := by split <;> omega

/-- the greatest of a room's steps; of all -/
def rowF (p : List ByteArray) (a : Nat) : Nat := mxF (fun b => dstP p a b - 1) (gridR p)
def farN (p : List ByteArray) : Nat := if planB p then mxF (rowF p) (gridR p) else 0
theorem rowF_le {p : List ByteArray} (h9 : gridR p ≤ 9) {a : Nat} (ha : a < gridR p) : rowF p a ≤ 9 :=
  mxF_le (fun b => by have := dstP_le (p := p) (b := b) ha; omega) _
theorem dst_out {p : List ByteArray} {a b : Nat} (ha : a < gridR p) (hb : gridR p ≤ b) : dstP p a b - 1 = 0 := by
  have hI := bfsB_inv (adj := adjF (bsF p) (gridR p)) ha (fun y => adjF_lt (bsF p) (gridR p) y) (gridR p)
  by_cases h : 0 < dstP p a b
  · have := hI.lt _ (hI.mem b h); omega
  · omega
theorem row_nine {p : List ByteArray} (h9 : gridR p ≤ 9) {a : Nat} (ha : a < gridR p) : mxF (fun b => dstP p a b - 1) 9 = rowF p a := by
  obtain ⟨k, hk⟩ : ∃ k, 9 = gridR p + k := ⟨9 - gridR p, by omega⟩
  rw [hk, mxF_zeros fun i hi => dst_out ha hi]; rfl

set_option maxRecDepth 100000 in
set_option maxHeartbeats 2000000 in
theorem specNearFar_any (ao : Option Addr) (cap : Nat) (p : List ByteArray) (w : World) (hl : p.length ≤ 1048576) (hs : ∀ s ∈ p, s.size ≤ 1048576) (hc : CellsAt w ao (p.map Value.string)) :
    Calls Try.prog 17 #[.slice ao p.length cap] w fun e w' => e = .returned (.tuple #[.int .i64 (farN p : Nat), .bool (planB p)]) ∧ Below w.heap.size w w' := by
  have HP := Lib.hid (fun w c => specPlanIn_any ao cap p w hl hs c)
  cases hp : planB p
  · have h0 : farN p = 0 := by unfold farN; rw [hp]; rfl
    rw [h0]; rw [hp] at HP
    go_enter Try.func17, Try.ntmps17
    go_wp2_with fail
    refine (HP.out _ hc).mono ?_
    rintro e w1 ⟨rfl, hb1⟩
    go_wp2
    go_ret2
    exact ⟨rfl, hb1⟩
  · have h0 : farN p = mxF (rowF p) (gridR p) := by unfold farN; rw [hp]; rfl
    have h9 := (planP_of hp).few
    have HR := Lib.hid (fun w c => l1Rooms_any ao cap p w hl hs c)
    rw [(planP_of hp).rooms] at HR
    have HL := Lib.hid (fun (a : Nat) (ha : a < gridR p) w c => l4Steps_any ao cap p a w hp ha hl hs c)
    have HRL := Lib.hid (fun (a : Nat) (ha : a < gridR p) => rowF_le h9 ha)
    have HOA := Lib.hid (fun (a b : Nat) (ha : a < gridR p) (hb : b < gridR p) => by
      have h1 := outB_at (D := (bfsB (adjF (bsF p) (gridR p)) a (gridR p)).D) hb
      have h2 : 0 < (bfsB (adjF (bsF p) (gridR p)) a (gridR p)).D b := dstP_pos hp ha hb
      rw [show (((bfsB (adjF (bsF p) (gridR p)) a (gridR p)).D b : Nat) : Int) - 1 = ((dstP p a b - 1 : Nat) : Int) by unfold dstP; omega] at h1
      exact h1)
    have HRF := Lib.hid (fun (a : Nat) => show rowF p a = mxF (fun b => dstP p a b - 1) (gridR p) from rfl)
    have HDL := Lib.hid (fun (a b : Nat) (ha : a < gridR p) => dstP_le (p := p) (b := b) ha)
    rw [h0]; rw [hp] at HP
    have HC := Lib.hid hc
    clear h0 hc
    generalize hrf : rowF p = F at *
    generalize hdd : (fun a b => dstP p a b - 1) = d at *
    have HD := Lib.hid (show ∀ a b, dstP p a b - 1 = d a b from fun a b => by rw [← hdd])
    clear hrf hdd
    have HOA2 := Lib.hid (fun a b ha hb => by have := HOA.out a b ha hb; rw [HD.out] at this; exact this)
    have HRF2 := Lib.hid (fun a => show F a = mxF (d a) (gridR p) by rw [HRF.out a]; exact mxF_congr fun i _ => HD.out a i)
    have HDL2 := Lib.hid (fun a b ha => show d a b ≤ 9 by have := HDL.out a b ha; rw [← HD.out]; omega)
    have HMA := Lib.hid (fun k (hk : k ≤ gridR p) => show mxF F k ≤ 9 by
      have : ∀ j, j ≤ gridR p → mxF F j ≤ 9 := fun j => by
        induction j with
        | zero => exact fun _ => Nat.zero_le _
        | succ j ih => intro hj; show max _ _ ≤ 9; have := ih (by omega); have := HRL.out j (by omega); omega
      exact this k hk)
    clear HOA HRF HDL HD
    generalize hout : (fun a => (outB (bfsB (adjF (bsF p) (gridR p)) a (gridR p)).D (gridR p)).map (Value.int .i64)) = O at *
    have HL2 := Lib.hid (fun (a : Nat) (ha : a < gridR p) w c => show Calls Try.prog 31 #[.slice ao p.length cap, .int .i64 a] w
      fun e w' => ∃ ro rc, e = .returned (.slice ro (gridR p) rc) ∧ w'.ownsRow w.heap.size 3 1 (.slice ro (gridR p) rc) (gridR p) (O a) ∧ Below w.heap.size w w' by rw [← hout]; exact HL.out a ha w c)
    have HOA := Lib.hid (fun a b ha hb => show (O a)[b]? = some (Value.int .i64 ((d a b : Nat) : Int)) by rw [← hout]; exact HOA2.out a b ha hb)
    clear HOA2 hout HL
    generalize gridR p = n at *
    clear hp
    go_enter Try.func17, Try.ntmps17
    go_wp2_with fail
    refine (HP.out _ HC.out).mono ?_
    rintro e w1 ⟨rfl, hb1⟩
    clear HP
    go_wp2
    go_loopw [4, 5] (fun vm va wr => ∃ a : Nat, a ≤ n ∧ va = .int .i64 a ∧ vm = .int .i64 (mxF F a : Nat) ∧ Below w.heap.size w wr) (fun _ va _ => n - (intOf va).toNat)
    case atStart => exact ⟨0, Nat.zero_le _, rfl, rfl, hb1⟩
    case round =>
      obtain ⟨a, ha, rfl, rfl, hb⟩ := hrel
      clear hb1
      have hcr := HC.out.below hb
      have hm9 := HMA.out a ha
      go_wp2_with fail
      refine (HR.out _ hcr).mono ?_
      rintro e w2 ⟨rfl, rfl⟩
      by_cases hlt : a < n
      · have hlt' : decide ((a : Int) < (n : Int)) = true := by rw [decide_eq_true_eq]; omega
        have HSU := Lib.hid (show mxF F (a + 1) = max (mxF F a) (mxF (d a) n) by rw [← HRF2.out]; rfl)
        generalize mxF F a = M at *
        have HDA := Lib.hid (fun b => HDL2.out a b hlt)
        have HM0 := Lib.hid (show max M (mxF (d a) 0) = M by show max M 0 = M; omega)
        have HMS := Lib.hid (fun b => show max M (mxF (d a) (b + 1)) = max (max M (mxF (d a) b)) (d a b) by show max M (max _ _) = _; omega)
        have HML := Lib.hid (fun b => show max M (mxF (d a) b) ≤ 9 by have := mxF_le HDA.out b; omega)
        go_wp2_with fail
        refine (HL2.out a hlt _ hcr).mono ?_
        rintro e w3 ⟨ro, rc, rfl, hrow, hb3⟩
        have hcl := owns_cells hrow
        have hb4 := below_step hb hb.size hb3
        clear hrow hb3
        go_wp2
        go_loopw [4, 7] (fun vm vb wm => ∃ b : Nat, b ≤ n ∧ vb = .int .i64 b ∧ vm = .int .i64 (max M (mxF (d a) b) : Nat) ∧ wm = w3) (fun _ vb _ => n - (intOf vb).toNat)
        case atStart => exact ⟨0, Nat.zero_le _, rfl, by rw [HM0.out], rfl⟩
        case round =>
          obtain ⟨b, hbn, rfl, rfl, rfl⟩ := hrel
          have hml := HML.out b
          by_cases hbl : b < n
          · have hbl' : decide ((b : Int) < (n : Int)) = true := by rw [decide_eq_true_eq]; omega
            obtain ⟨B, off, rfl, hcb⟩ := hcl b _ (HOA.out a b hlt hbl)
            have HS2 := Lib.hid (HMS.out b)
            have hd9 := HDA.out b
            generalize max M (mxF (d a) b) = y at *
            generalize d a b = z at *
            go_wp2
            go_roundw
            case rel => exact ⟨b + 1, by omega, by go_num, by rw [HS2.out, max_mx], by first | rfl | trivial⟩
            case measure => simp [intOf]; omega
          · obtain rfl : b = n := by omega
            have hbl' : decide ((b : Int) < (b : Int)) = false := by rw [decide_eq_false_iff_not]; omega
            rw [← HSU.out]
            rw [← HSU.out] at hml
            go_wp2
            go_roundw
            case rel => exact ⟨a + 1, by omega, by go_num, by first | rfl | trivial, hb4⟩
            case measure => simp [intOf]; omega
      · obtain rfl : a = n := by omega
        have hlt' : decide ((a : Int) < (a : Int)) = false := by rw [decide_eq_false_iff_not]; omega
        go_wp2
        go_ret2
        exact ⟨rfl, hb⟩

theorem HeldB.nine {w : World} {B : Nat} {t : TypeId} {f : Nat → Nat} (h : HeldB w B t (nineC f)) : CellsAt w (some ⟨B, 0, none⟩) (intsN ((List.range 9).map f)) := fun i u hu => by
  refine ⟨B, 0, rfl, ?_⟩
  rw [Nat.zero_add, h.cell i, ← hu]
  unfold nineC intsN
  simp
  rfl

set_option maxRecDepth 100000 in
set_option maxHeartbeats 1000000 in
theorem maxInts_any (ao : Option Addr) (cap n : Nat) (f : Nat → Nat) (w : World) (hn : 0 < n) (hl : n ≤ 1000) (hf : ∀ i, f i ≤ 1000) (hc : CellsAt w ao (intsN ((List.range n).map f))) :
    Calls Try.prog 33 #[.slice ao n cap] w fun e w' => e = .returned (.int .i64 (mxF f n : Nat)) ∧ w' = w := by
  have HIC := Lib.hid (fun i (hi : i < n) => show (intsN ((List.range n).map f))[i]? = some (Value.int .i64 ((f i : Nat) : Int)) by unfold intsN; simp [hi])
  have hML := mxF_le hf
  have HS := Lib.hid (fun i => show mxF f (i + 1) = max (mxF f i) (f i) from rfl)
  have H1 := Lib.hid (show mxF f 1 = f 0 from Nat.max_eq_right (Nat.zero_le _))
  have HC := Lib.hid hc
  have HFL := Lib.hid hf
  have HML := Lib.hid hML
  clear hf hML
  obtain ⟨B, off, rfl, hc0⟩ := hc 0 _ (HIC.out 0 hn)
  have hc00 : w.cell? ⟨B, off, none⟩ = some (.int .i64 ((f 0 : Nat) : Int)) := hc0
  clear hc hc0
  generalize intsN ((List.range n).map f) = L at *
  generalize mxF f = m at *
  have hn1 : decide ((n : Int) < 1) = false := by rw [decide_eq_false_iff_not]; omega
  have hn0 : (0 : Int) < (n : Int) := by omega
  go_enter Try.func33, Try.ntmps33
  go_wp2
  go_loopw [3, 4] (fun vm vi wr => ∃ i : Nat, 1 ≤ i ∧ i ≤ n ∧ vi = .int .i64 i ∧ vm = .int .i64 (m i : Nat) ∧ wr = w) (fun _ vi _ => n - (intOf vi).toNat)
  case atStart => exact ⟨1, Nat.le_refl _, hn, rfl, by rw [H1.out], rfl⟩
  case round =>
    obtain ⟨i, hi1, hi, rfl, rfl, rfl⟩ := hrel
    have hm9 := HML.out i
    by_cases hlt : i < n
    · have hlt' : decide ((i : Int) < (n : Int)) = true := by rw [decide_eq_true_eq]; omega
      obtain ⟨B', off', he, hcb⟩ := HC.out i _ (HIC.out i hlt)
      simp only [Option.some.injEq, Addr.mk.injEq, and_true] at he
      obtain ⟨rfl, rfl⟩ := he
      have HS2 := Lib.hid (HS.out i)
      have hf9 := HFL.out i
      generalize m i = y at *
      generalize f i = z at *
      go_wp2
      go_roundw
      case rel => exact ⟨i + 1, by omega, by omega, by go_num, by rw [HS2.out, max_mx], by first | rfl | trivial⟩
      case measure => simp [intOf]; omega
    · obtain rfl : i = n := by omega
      have hlt' : decide ((i : Int) < (i : Int)) = false := by rw [decide_eq_false_iff_not]; omega
      go_wp2
      go_ret
      exact ⟨rfl, rfl⟩

set_option maxRecDepth 100000 in
set_option maxHeartbeats 2000000 in
theorem implNearFar_any (ao : Option Addr) (cap : Nat) (p : List ByteArray) (w : World) (hl : p.length ≤ 1048576) (hs : ∀ s ∈ p, s.size ≤ 1048576) (hc : CellsAt w ao (p.map Value.string)) :
    Calls Try.prog 16 #[.slice ao p.length cap] w fun e w' => e = .returned (.tuple #[.int .i64 (farN p : Nat), .bool (planB p)]) ∧ Below w.heap.size w w' := by
  have hask : askB p [] = planB p := by unfold askB; simp
  cases hp : planB p
  · have h0 : farN p = 0 := by unfold farN; rw [hp]; rfl
    rw [hp] at hask
    have HR := Lib.hid (readChambers_no ao cap p none 0 [] w hl hs hc (by simp) (CellsAt.nil _ _) hask)
    rw [h0]
    clear h0 hask
    go_enter Try.func16, Try.ntmps16
    go_wp2_with (go_at_call 28; refine (HR.out).mono ?_; rintro e w1 ⟨rfl, hb1⟩)
    go_loopw [6, 17] (fun vl vi wr => vl = .int .i64 0 ∧ vi = .int .i64 0 ∧ wr = w1) (fun _ _ _ => 0)
    case atStart => exact ⟨rfl, rfl, rfl⟩
    case round =>
      obtain ⟨rfl, rfl, rfl⟩ := hrel
      go_wp2
      go_ret2
      exact ⟨rfl, hb1⟩
  · have h0 : farN p = mxF (rowF p) (gridR p) := by unfold farN; rw [hp]; rfl
    rw [hp] at hask
    have HR := Lib.hid (readChambers_yes ao cap p none 0 [] w hl hs hc (by simp) (CellsAt.nil _ _) hask)
    have h9 := (planP_of hp).few
    have HSA := Lib.hid (fun (a : Nat) (ha : a < gridR p) (W : World) (Q : Nat) so sc (h : ChB W Q (gridR p) (nbF p) (fun k => k < Q) so sc) => by have := steps_any Q (gridR p) a (nbF p) _ so sc W h9 ha h; rw [adjF_nbF hp] at this; exact this)
    have HRN := Lib.hid (fun (a : Nat) (ha : a < gridR p) => row_nine h9 ha)
    have HRL := Lib.hid (fun (a : Nat) (ha : a < gridR p) => rowF_le h9 ha)
    have HMX := Lib.hid (fun (a R : Nat) (W : World) (ha : a < gridR p) (h : HeldB W R 46 (nineC fun b => (bfsB (adjF (bsF p) (gridR p)) a (gridR p)).D b - 1)) => by
      have := maxInts_any (some ⟨R, 0, none⟩) 9 9 (fun b => dstP p a b - 1) W (by decide) (by decide) (fun b => by have := dstP_le (p := p) (b := b) ha; omega) (HeldB.nine h)
      rw [row_nine h9 ha] at this
      exact this)
    have HN9 := Lib.hid (fun a => nineC_size (fun b => (bfsB (adjF (bsF p) (gridR p)) a (gridR p)).D b - 1))
    have HN1 := Lib.hid (fun a => show (nineC (fun b => (bfsB (adjF (bsF p) (gridR p)) a (gridR p)).D b - 1)).all (·.oneCell') = true by
      unfold nineC; rw [Array.all_eq_true_iff_forall_mem]; intro v hv
      simp at hv; obtain ⟨_, _, rfl⟩ := hv; rfl)
    have HMA := Lib.hid (fun k (hk : k ≤ gridR p) => show mxF (rowF p) k ≤ 9 by
      have : ∀ j, j ≤ gridR p → mxF (rowF p) j ≤ 9 := fun j => by
        induction j with
        | zero => exact fun _ => Nat.zero_le _
        | succ j ih => intro hj; show max _ _ ≤ 9; have := ih (by omega); have := HRL.out j (by omega); omega
      exact this k hk)
    have HSU := Lib.hid (fun a => show mxF (rowF p) (a + 1) = max (mxF (rowF p) a) (rowF p a) from rfl)
    have HZ := Lib.hid zero_nineC
    have HZ9 : Hid ((nineC fun _ => 0).size = 9) := Lib.hid (nineC_size _)
    unfold Linked at HR
    rw [h0]
    clear h0 hask hl hs hc HRN
    generalize hN : (fun a => nineC fun b => (bfsB (adjF (bsF p) (gridR p)) a (gridR p)).D b - 1) = N at *
    have HSA2 := Lib.hid (fun (a : Nat) (ha : a < gridR p) (W : World) (Q : Nat) so sc (h : ChB W Q (gridR p) (nbF p) (fun k => k < Q) so sc) => show Calls Try.prog 30 #[.pointer (some ⟨Q + a, 0, none⟩)] W fun e w' => e = .returned (.agg (N a)) ∧ Below W.heap.size W w' by rw [← hN]; exact HSA.out a ha W Q so sc h)
    have HMX2 := Lib.hid (fun (a R : Nat) (W : World) (ha : a < gridR p) (h : HeldB W R 46 (N a)) => show Calls Try.prog 33 #[.slice (some ⟨R, 0, none⟩) 9 9] W fun e w' => e = .returned (.int .i64 (rowF p a : Nat)) ∧ w' = W by rw [← hN] at h; exact HMX.out a R W ha h)
    have HN92 := Lib.hid (fun a => show (N a).size = 9 by rw [← hN]; exact HN9.out a)
    have HN12 := Lib.hid (fun a => show (N a).all (·.oneCell') = true by rw [← hN]; exact HN1.out a)
    clear hN HSA HMX HN9 HN1
    generalize rowF p = F at *
    generalize nbF p = f at *
    generalize gridR p = n at *
    generalize (nineC fun _ => 0) = Z at *
    clear hp
    go_enter Try.func16, Try.ntmps16
    go_wp2_with (go_at_call 28; refine (HR.out).mono ?_; rintro e w1 ⟨Rb, c, Q, rfl, y1, ⟨so, sc, y2⟩, y3, y4, y5⟩)
    have HC := Lib.hid y2
    have HP := Lib.hid y1
    clear y1 y2 HR
    go_loopw [6, 17] (fun vl vi wr => ∃ i : Nat, i ≤ n ∧ vi = .int .i64 i ∧ vl = .int .i64 (mxF F i : Nat) ∧ Below w1.heap.size w1 wr) (fun _ vi _ => n - (intOf vi).toNat)
    case atStart => exact ⟨0, Nat.zero_le _, rfl, rfl, Below.refl _ _⟩
    case round =>
      obtain ⟨i, hi, rfl, rfl, hb⟩ := hrel
      have hm9 := HMA.out i hi
      by_cases hlt : i < n
      · have hlt' : decide ((i : Int) < (n : Int)) = true := by rw [decide_eq_true_eq]; omega
        have hpc := ptr_cell (HP.out.below hb) hlt
        have HST := Lib.hid (HSA2.out i hlt _ Q so sc (HC.out.below hb))
        have HS := Lib.hid (HSU.out i)
        have HSZ := Lib.hid (show (Try.prog.info? 46).map (·.size) = some (N i).size by rw [HN92.out]; kernel_rfl)
        have HZS := Lib.hid (show Z.size = (N i).size by rw [HZ9.out, HN92.out])
        have HO1 := Lib.hid (HN12.out i)
        have hF9 := HRL.out i hlt
        have HMI := Lib.hid (fun R W h => HMX2.out i R W hlt h)
        have hbs := hb.size
        generalize N i = Ni at *
        generalize mxF F i = y at *
        generalize F i = z at *
        go_wp2_with (first
          | (go_at_call 30; refine (HST.out).mono ?_; rintro e w2 ⟨rfl, hb2⟩; have hb3 := (below_step hb hbs hb2).trans (below_alloc w2 (.cells Ni 46) |>.mono (by have := hb2.size; omega)); have hR2 := HeldB.new w2 46 Ni; have HM2 := Lib.hid (HMI.out _ _ hR2))
          | (refine wpList_alloc_zero rfl 46 rfl Z HZ.out ?_)
          | (refine wpList_store_new rfl 46 _ _ rfl _ Z Ni rfl rfl rfl HSZ.out HZS.out HO1.out ?_)
          | (go_at_call 33; refine (HM2.out).mono ?_; rintro e w4 ⟨rfl, rfl⟩))
        go_roundw
        case rel => exact ⟨i + 1, by omega, by go_num, by rw [HS.out, max_mx], hb3⟩
        case measure => simp [intOf]; omega
      · obtain rfl : i = n := by omega
        have hlt' : decide ((i : Int) < (i : Int)) = false := by rw [decide_eq_false_iff_not]; omega
        go_wp2
        go_ret2
        exact ⟨rfl, below_step y5 y5.size hb⟩

end Go.Proofs.Ytkbgkkempooplaa
