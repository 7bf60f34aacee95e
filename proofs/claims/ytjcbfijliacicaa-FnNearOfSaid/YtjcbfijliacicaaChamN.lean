
/-
  How many pairs of neighbours there are, and a room's neighbours: the program's answers. (Walks.)
-/
import Derived.Test.YtjcbfijliacicaaChamL
import Derived.Test.YtjcbfijliacicaaNearO
namespace Go.Proofs.Ytjcbfijliacicaa
open Go.RowKit

theorem edges_apart (h wd : Nat) (g : Nat → Nat → Nat) : ∀ e ∈ edgesL g (wallsG h wd g), e.1 ≠ e.2 := fun e he => by
  unfold edgesL at he
  obtain ⟨x, hx, hex⟩ := List.mem_flatMap.1 he
  unfold edgesW edgesN at hex
  obtain ⟨t, ht, rfl⟩ := List.mem_map.1 hex
  have ht' := List.mem_range.1 ht
  obtain ⟨m1, m2, m3, m4, m5, m6⟩ := wallsG_mem hx
  have h3 := m6 (x.first + t) (by omega) (by omega)
  unfold wayF upF lvF at h3
  unfold sideA sideB
  rcases (show x.way = 0 ∨ x.way = 1 by omega) with hw0 | hw0
  · rw [hw0] at h3 ⊢
    simp only [if_true] at h3 ⊢
    rw [Bool.and_eq_true, decide_eq_true_eq, decide_eq_true_eq] at h3
    exact h3.2
  · rw [hw0] at h3 ⊢
    simp only [Nat.one_ne_zero, if_false] at h3 ⊢
    rw [Bool.and_eq_true, decide_eq_true_eq, decide_eq_true_eq] at h3
    exact h3.2
theorem nbF_self (p : List ByteArray) (a : Nat) : nbF p a a = 0 := by
  unfold nbF cntE
  rw [List.countP_eq_zero]
  intro e he
  have := edges_apart _ _ _ e he
  simp only [decide_eq_true_eq]
  rintro (rfl | rfl) <;> exact this rfl
theorem nbF_symm (p : List ByteArray) (a b : Nat) : nbF p a b = nbF p b a := by
  unfold nbF cntE
  refine List.countP_congr fun e _ => ?_
  simp only [decide_eq_true_eq]
  exact Or.comm
theorem nbF_bes {p : List ByteArray} (h : planB p = true) (a b : Nat) : nbF p a b = besN p (a : Int) (b : Int) := by
  by_cases hab : a = b
  · subst hab
    rw [nbF_self]
    exact (if_pos rfl).symm
  · exact nbF_eq h hab
theorem lnk_count (n : Nat) (f : Nat → Nat) : (lnk n f).length = (List.range n).countP fun b => decide (0 < f b) := by
  unfold lnk lnkL
  rw [List.length_map, List.countP_eq_length_filter]
theorem pairN_cnt {p : List ByteArray} (h : planB p = true) (a n : Nat) : pairN p a n = (List.range n).countP fun b => decide (0 < nbF p a b) := by
  unfold pairN
  refine List.countP_congr fun b _ => ?_
  rw [nbF_bes h]
theorem of_links {p : List ByteArray} (h : planB p = true) (a n : Nat) : ofL p (a : Int) n = (lnk n (nbF p a)).map fun x => ((x.1 : Nat) : Int) := by
  unfold ofL lnk lnkL
  rw [List.map_map]
  have h1 : ((List.range n).filter fun (b : Nat) => decide (0 < besN p (a : Int) (b : Int))) = (List.range n).filter fun b => decide (0 < nbF p a b) := List.filter_congr fun b _ => by rw [nbF_bes h]
  rw [h1]; rfl
/-- of a symmetric question, asked of all pairs: twice that of the pairs one way -/
theorem cnt_twice (s : Nat → Nat → Bool) (hs : ∀ a b, s a b = s b a) (h0 : ∀ a, s a a = false) : ∀ n, sumN n (fun a => (List.range n).countP (s a)) = 2 * sumN n (fun a => (List.range a).countP (s a))
  | 0 => rfl
  | n + 1 => by
    have ih := cnt_twice s hs h0 n
    show sumN n (fun a => (List.range (n + 1)).countP (s a)) + (List.range (n + 1)).countP (s n) = 2 * (sumN n (fun a => (List.range a).countP (s a)) + (List.range n).countP (s n))
    have h1 : sumN n (fun a => (List.range (n + 1)).countP (s a)) = sumN n (fun a => (List.range n).countP (s a)) + sumN n (fun a => if s a n = true then 1 else 0) := by
      rw [← sumN_add]
      refine sumN_congr fun a _ => ?_
      rw [List.range_succ, List.countP_append, List.countP_singleton]
    have h2 : sumN n (fun a => if s a n = true then 1 else 0) = (List.range n).countP (s n) := by
      have : ∀ m, sumN m (fun a => if s a n = true then 1 else 0) = (List.range m).countP (s n) := fun m => by
        induction m with
        | zero => rfl
        | succ m ih => rw [List.range_succ, List.countP_append, List.countP_singleton, ← ih, hs n m]; rfl
      exact this n
    have h3 : (List.range (n + 1)).countP (s n) = (List.range n).countP (s n) := by
      rw [List.range_succ, List.countP_append, List.countP_singleton, h0]; rfl
    rw [h1, h2, h3, ih]; omega
/-- all links of the first rooms -/
def lnksN (p : List ByteArray) (n i : Nat) : Nat := sumN i fun a => (lnk n (nbF p a)).length
theorem lnksN_succ (p : List ByteArray) (n i : Nat) : lnksN p n (i + 1) = lnksN p n i + (lnk n (nbF p i)).length := rfl
theorem lnksN_le (p : List ByteArray) (n : Nat) : ∀ i, lnksN p n i ≤ i * n
  | 0 => Nat.zero_le _
  | i + 1 => by rw [lnksN_succ, Nat.succ_mul]; have := lnk_len n (nbF p i); have := lnksN_le p n i; omega
theorem lnks_pairs {p : List ByteArray} (h : planB p = true) (n : Nat) : lnksN p n n = 2 * pairsN p n := by
  unfold lnksN pairsN
  have h1 := cnt_twice (fun a b => decide (0 < nbF p a b)) (fun a b => by rw [nbF_symm]) (fun a => by rw [nbF_self]; rfl) n
  rw [show (fun a => (lnk n (nbF p a)).length) = fun a => (List.range n).countP (fun b => decide (0 < nbF p a b)) from funext fun a => lnk_count n _, h1]
  congr 1
  exact sumN_congr fun a _ => (pairN_cnt h a a).symm

set_option maxRecDepth 100000 in
set_option maxHeartbeats 2000000 in
theorem implNearMany_any (ao : Option Addr) (cap : Nat) (p : List ByteArray) (w : World) (hl : p.length ≤ 1048576) (hs : ∀ s ∈ p, s.size ≤ 1048576) (hc : CellsAt w ao (p.map Value.string)) :
    Calls Try.prog 23 #[.slice ao p.length cap] w fun e w' => e = .returned (.tuple #[.int .i64 (manyN p : Nat), .bool (planB p)]) ∧ Below w.heap.size w w' := by
  have hask : askB p [] = planB p := by unfold askB; simp
  cases hp : planB p
  · have h0 : manyN p = 0 := by unfold manyN; rw [hp]; rfl
    rw [hp] at hask
    have HR := Lib.hid (readChambers_no ao cap p none 0 [] w hl hs hc (by simp) (CellsAt.nil _ _) hask)
    rw [h0]
    clear h0 hask
    go_enter Try.func23, Try.ntmps23
    go_wp2_with (go_at_call 52; refine (HR.out).mono ?_; rintro e w1 ⟨rfl, hb1⟩)
    go_loopw [6, 16] (fun vl vi wr => vl = .int .i64 0 ∧ vi = .int .i64 0 ∧ wr = w1) (fun _ _ _ => 0)
    case atStart => exact ⟨rfl, rfl, rfl⟩
    case round =>
      obtain ⟨rfl, rfl, rfl⟩ := hrel
      go_wp2
      go_ret2
      exact ⟨rfl, hb1⟩
  · have h0 : manyN p = pairsN p (gridR p) := by unfold manyN; rw [hp]; rfl
    rw [hp] at hask
    have HR := Lib.hid (readChambers_yes ao cap p none 0 [] w hl hs hc (by simp) (CellsAt.nil _ _) hask)
    have hn9 := (planP_of hp).few
    have HT := Lib.hid (lnks_pairs hp (gridR p))
    have HSU := Lib.hid (fun i => lnksN_succ p (gridR p) i)
    have HLE := Lib.hid (fun i => lnksN_le p (gridR p) i)
    have HLN := Lib.hid (fun i => lnk_len (gridR p) (nbF p i))
    have HZ := Lib.hid (show lnksN p (gridR p) 0 = 0 from rfl)
    unfold Linked at HR
    rw [h0]
    clear h0 hask hp hl hs hc
    generalize lnksN p (gridR p) = T at *
    generalize pairsN p (gridR p) = m at *
    generalize nbF p = f at *
    generalize gridR p = n at *
    go_enter Try.func23, Try.ntmps23
    go_wp2_with (go_at_call 52; refine (HR.out).mono ?_; rintro e w1 ⟨Rb, c, Q, rfl, y1, ⟨so, sc, y2⟩, y3, y4, y5⟩)
    have HC := Lib.hid y2
    have HP := Lib.hid y1
    clear y1 y2
    go_loopw [6, 16] (fun vl vi wr => ∃ i : Nat, i ≤ n ∧ vi = .int .i64 i ∧ vl = .int .i64 (T i : Nat) ∧ wr = w1) (fun _ vi _ => n - (intOf vi).toNat)
    case atStart => exact ⟨0, Nat.zero_le _, rfl, by rw [HZ.out]; rfl, rfl⟩
    case round =>
      obtain ⟨i, hi, rfl, rfl, rfl⟩ := hrel
      have hT := HLE.out i
      have hT2 : T i ≤ 81 := Nat.le_trans hT (Nat.mul_le_mul (show i ≤ 9 by omega) hn9)
      by_cases hlt : i < n
      · have hlt' : decide ((i : Int) < (n : Int)) = true := by rw [decide_eq_true_eq]; omega
        have hpc := ptr_cell HP.out hlt
        have hcc : wr.cell? ⟨Q + i, 1, none⟩ = some (.slice (so i) (lnk n (f i)).length (sc i)) := (HC.out.1 i hlt).cell 1
        have HS := Lib.hid (HSU.out i)
        have hln := HLN.out i
        clear hT
        generalize (lnk n (f i)).length = ln at *
        generalize so i = si at *
        generalize sc i = ci at *
        generalize T i = Ti at *
        go_wp2
        go_roundw
        case rel => exact ⟨i + 1, by omega, by go_num, by rw [HS.out]; go_num, by first | rfl | trivial⟩
        case measure => simp [intOf]; omega
      · obtain rfl : i = n := by omega
        have hlt' : decide ((i : Int) < (i : Int)) = false := by rw [decide_eq_false_iff_not]; omega
        have hq : Int.tdiv (T i : Int) 2 = (m : Int) := by
          have := HT.out
          rw [this, Int.tdiv_eq_ediv_of_nonneg (by omega)]; omega
        have hm81 : m ≤ 81 := by have := HT.out; omega
        go_wp2
        go_ret2
        exact ⟨rfl, y5⟩

theorem getD_take1 {L : List (Nat × Nat)} {i : Nat} (h : i < L.length) : (L.take (i + 1)).map (fun x => ((x.1 : Nat) : Int)) = (L.take i).map (fun x => ((x.1 : Nat) : Int)) ++ [(((L.getD i (0, 0)).1 : Nat) : Int)] := by
  rw [take_succ_getD L i (0, 0) h, List.map_append]; rfl

set_option maxRecDepth 100000 in
set_option maxHeartbeats 4000000 in
theorem implNearOf_any (ao : Option Addr) (cap : Nat) (p : List ByteArray) (a : Int) (w : World) (hl : p.length ≤ 1048576) (hs : ∀ s ∈ p, s.size ≤ 1048576) (hc : CellsAt w ao (p.map Value.string)) :
    Calls Try.prog 25 #[.slice ao p.length cap, .int .i64 a] w
      fun e w' => NumsRet w.heap.size (nearL p a) (givenB p a) e w' ∧ Below w.heap.size w w' := by
  obtain ⟨im, hmi, hmz, hm1, hm2⟩ := info_parts Try.infoNum
  have hlit : CellsAt (w.alloc (.cells #[.int .i64 a] 3)) (some ⟨w.heap.size, 0, none⟩) ([a].map (Value.int .i64)) := CellsAt.alloc_lit w [.int .i64 a] 3
  have hcl := hc.below (below_alloc w (.cells #[.int .i64 a] 3))
  have hbl := below_alloc w (.cells #[.int .i64 a] 3)
  have hask : askB p [a] = givenB p a := by
    rw [given_isRm]
    unfold askB
    cases planB p
    · rfl
    · simp only [List.any_cons, List.any_nil]
      cases isRm (gridR p) a <;> rfl
  cases hq : askB p [a]
  · have h0 : nearL p a = [] := by unfold nearL; rw [← hask, hq]; rfl
    have HR := Lib.hid (readChambers_no ao cap p _ 1 [a] _ hl hs hcl (by simp) hlit hq)
    rw [h0, ← hask, hq]
    clear h0 hask hq hlit hcl
    go_enter Try.func25, Try.ntmps25
    go_wp2_with (go_at_call 52; refine (HR.out).mono ?_; rintro e w1 ⟨rfl, hb1⟩)
    go_ret2
    exact ⟨⟨none, 0, rfl, ⟨rfl, .inl ⟨rfl, rfl⟩⟩⟩, hbl.trans (hb1.mono (by simp))⟩
  · have HR := Lib.hid (readChambers_yes ao cap p _ 1 [a] _ hl hs hcl (by simp) hlit hq)
    have hq' := hq
    rw [hask] at hq'
    have qa := hq'
    have hp : planB p = true := by rw [given_isRm, Bool.and_eq_true] at qa; exact qa.1
    have ra := qa
    rw [given_isRm, hp, Bool.true_and, isRm_iff] at ra
    have hn9 := (planP_of hp).few
    obtain ⟨a', rfl⟩ : ∃ a' : Nat, a = (a' : Int) := ⟨a.toNat, by omega⟩
    have ha' : a' < gridR p := by omega
    have h0 : nearL p (a' : Int) = (lnk (gridR p) (nbF p a')).map fun x => ((x.1 : Nat) : Int) := by unfold nearL; rw [hq', if_pos rfl, of_links hp]
    rw [h0, hq']
    have hlk := lnk_len (gridR p) (nbF p a')
    have HMEM := Lib.hid (fun (i : Nat) (hi : i < (lnk (gridR p) (nbF p a')).length) => (lnk_mem (getD_mem (0, 0) hi)).1)
    unfold Linked at HR
    clear h0 hask hlit hcl qa hq hq' hp hl hs hc
    generalize nbF p = f at *
    generalize gridR p = n at *
    obtain ⟨L, hL⟩ : ∃ L, lnk n (f a') = L := ⟨_, rfl⟩
    rw [hL] at HMEM hlk
    rw [hL]
    have HL := Lib.hid hL
    clear hL
    go_enter Try.func25, Try.ntmps25
    go_wp2_with (go_at_call 52; refine (HR.out).mono ?_; rintro e w1 ⟨Rb, c, Q, rfl, y1, ⟨so, sc, y2⟩, y3, y4, y5⟩; have hpc := ptr_cell y1 ha'; have hcc : w1.cell? ⟨Q + a', 1, none⟩ = some (.slice (so a') L.length (sc a')) := by { have := (y2.1 a' ha').cell 1; rw [HL.out] at this; exact this }; have HC := Lib.hid y2; clear y1 y2)
    have hbw : Below w.heap.size w w1 := hbl.trans (y5.mono (by simp))
    have HCL := Lib.hid (show CellsAt w1 (so a') (lnkC Q L) by have := ownsK_cells (HC.out.2.1 a' ha'); rw [HL.out] at this; exact this)
    have HRM := Lib.hid (show rms w1 Q L by have := HC.out.rms a'; rw [HL.out] at this; exact this)
    have HIN := Lib.hid (fun (i : Nat) (hi : i < L.length) => (getD_mem (0, 0) hi : L.getD i (0, 0) ∈ L))
    clear HC hpc hcc y5 hbl HL
    generalize so a' = sa at *
    generalize sc a' = ca at *
    have HTK := Lib.hid (fun i (hi : i < L.length) => getD_take1 hi)
    have HTL := Lib.hid (show L.take L.length = L from List.take_length)
    have HT0 := Lib.hid (show (L.take 0).map (fun x => ((x.1 : Nat) : Int)) = [] from rfl)
    have HTN := Lib.hid (fun i (hi : i ≤ L.length) => show ((L.take i).map (fun x => ((x.1 : Nat) : Int))).length = i by rw [List.length_map, List.length_take]; omega)
    go_loopw [8, 28] (fun vr vi wr => ∃ (i : Nat) (ro : Option Addr) (rc : Nat), i ≤ L.length ∧ vi = .int .i64 i ∧ vr = .slice ro i rc ∧ wr.ownsRow w1.heap.size 3 1 (.slice ro i rc) i (((L.take i).map (fun x => ((x.1 : Nat) : Int))).map (Value.int .i64)) ∧ Below w1.heap.size w1 wr) (fun _ vi _ => L.length - (intOf vi).toNat)
    case atStart => exact ⟨0, none, 0, Nat.zero_le _, rfl, rfl, ⟨rfl, .inl ⟨rfl, rfl⟩⟩, Below.refl _ _⟩
    case round =>
      obtain ⟨i, ro, rc, hi, rfl, rfl, hown, hq⟩ := hrel
      by_cases hlt : i < L.length
      · have hlt' : decide ((i : Int) < (L.length : Int)) = true := by rw [decide_eq_true_eq]; omega
        obtain ⟨bb, off, rfl, hrg⟩ := lnk_range (HCL.out.below hq) hlt
        have hcx := HRM.out.below hq _ (HIN.out i hlt)
        have HK := Lib.hid (HTK.out i hlt)
        obtain ⟨X, hX⟩ : ∃ X, L.getD i (0, 0) = X := ⟨_, rfl⟩
        rw [hX] at hrg hcx HK
        obtain ⟨x, m⟩ := X
        simp only at hcx HK
        have hbX := HeldB.new wr 92 (lnkC1 Q (x, m)).toArray
        have c0 : (wr.alloc (.cells (lnkC1 Q (x, m)).toArray 92)).cell? ⟨wr.heap.size, 0, none⟩ = some (.pointer (some ⟨Q + x, 0, none⟩)) := (hbX.cell 0).trans rfl
        have cx : (wr.alloc (.cells (lnkC1 Q (x, m)).toArray 92)).cell? ⟨Q + x, 0, none⟩ = some (.int .i64 (x : Nat)) := cell_below hcx (below_alloc wr _)
        have hqs := hq.size
        have h63 : i + 1 ≤ maxLen := by unfold maxLen; omega
        have h64 : (i + 1) * 8 ≤ 140737488355328 := by omega
        have hown1 := hown.alloc (.cells (lnkC1 Q (x, m)).toArray 92)
        have hq1 : Below w1.heap.size w1 (wr.alloc (.cells (lnkC1 Q (x, m)).toArray 92)) := hq.alloc hqs _
        have hlo := owns_lt hown
        have hzl : (Try.prog.info? 92).map (·.size) = some (lnkC1 Q (x, m)).toArray.size := by kernel_rfl
        have HZL := Lib.hid hzl
        have HON := Lib.hid (show (lnkC1 Q (x, m)).toArray.all (·.oneCell') = true by rw [Array.all_eq_true_iff_forall_mem]; intro v hv; exact lnk_one Q _ v (by simpa using hv))
        have HRG := Lib.hid hrg
        clear hX hbX hown hq hzl hrg hcx
        go_wp2_with (first
          | (refine wpList_load_mid rfl 92 _ rfl bb (off + i * 2) rfl (lnkC1 Q (x, m)) _ HRG.out Try.underlying92 rfl Try.sizeLnk ?_)
          | (refine wpList_store_new rfl 92 _ _ rfl _ #[.pointer none, .int .i64 0] (lnkC1 Q (x, m)).toArray rfl rfl rfl HZL.out rfl HON.out ?_)
          | (at_builtin; refine wpList_push _ rfl (.tmp 32) (.tmp 38) 35 rfl w1.heap.size 3 im (.int .i64 0) 8 Try.underlying35 hmi hmz hm1 hm2 rfl ro i rc _ rfl (hown1.alloc _) _ _ _ rfl (cell_new2 _ _ _ _) rfl h63 h64 (by simp; omega) ?_; intro ro2 rc2 w4 hrow2 hg2 hnew2))
        have hq4 := below_push hq1 (by have := hq1.size; omega) hg2 (fun a ha => (hlo a ha).1)
        go_roundw
        case rel => exact ⟨i + 1, ro2, rc2, by omega, by go_num, by go_num, by rw [HK.out, List.map_append]; exact hrow2, hq4⟩
        case measure => simp [intOf]; omega
      · obtain rfl : i = L.length := by omega
        have hlt' : decide ((L.length : Int) < (L.length : Int)) = false := by rw [decide_eq_false_iff_not]; omega
        rw [HTL.out] at hown
        go_wp2
        go_ret2
        have hfin : NumsRet w.heap.size (L.map fun x => ((x.1 : Nat) : Int)) true (.returned (.tuple #[.slice ro L.length rc, .bool true])) wr := by
          have hl : (L.map fun x => ((x.1 : Nat) : Int)).length = L.length := List.length_map _
          exact ⟨ro, rc, by rw [hl], by rw [hl]; exact ownsRow_base hown hbw.size⟩
        exact ⟨hfin, below_step hbw hbw.size hq⟩

end Go.Proofs.Ytjcbfijliacicaa
