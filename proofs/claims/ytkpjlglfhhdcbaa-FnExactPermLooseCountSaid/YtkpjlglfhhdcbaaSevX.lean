
/-
  Permutations put together: the program's answers. (Walks.)
-/
import Derived.Test.YtkpjlglfhhdcbaaSevE
namespace Go.Proofs.Ytkpjlglfhhdcbaa
open Go.RowKit

def bothP (l m : List Int) : Bool := isP l && isP m && decide (l.length + m.length ≤ 7)
def asideO (l m : List Int) : List Int := if bothP l m then asideL l m else []
def underO (l m : List Int) : List Int := if bothP l m then underL l m else []
theorem bothP_yes {l m : List Int} (h : bothP l m = true) : isP l = true ∧ isP m = true ∧ l.length + m.length ≤ 7 := by
  unfold bothP at h
  rw [Bool.and_eq_true, Bool.and_eq_true, decide_eq_true_eq] at h
  exact ⟨h.1.1, h.1.2, h.2⟩
theorem bothP_few {l m : List Int} (h : bothP l m = true) : Few l ∧ Few m := ⟨isP_few (bothP_yes h).1, isP_few (bothP_yes h).2.1⟩
theorem asideO_Few (l m : List Int) : Few (asideO l m) := by
  unfold asideO; split
  · next h => exact (bothP_few h).1.aside (bothP_few h).2 (bothP_yes h).2.2
  · exact few_nil
theorem underO_Few (l m : List Int) : Few (underO l m) := by
  unfold underO; split
  · next h => exact (bothP_few h).1.under (bothP_few h).2 (bothP_yes h).2.2
  · exact few_nil
theorem asideO_few (l m : List Int) : (asideO l m).length ≤ 1048576 := by have := (asideO_Few l m).len; omega
theorem underO_few (l m : List Int) : (underO l m).length ≤ 1048576 := by have := (underO_Few l m).len; omega
/-- two permutations put together by the program: as the lists are -/
theorem two_len {l m : List Int} (h1 : isP l = true) (h2 : isP m = true) : isN ((l.length : Int) + (m.length : Int)) = bothP l m ∧ asideR l m = asideO l m ∧ (asideR l.reverse m.reverse).reverse = underO l m := by
  have p1 := isP_pos h1
  have p2 := isP_pos h2
  by_cases h : l.length + m.length ≤ 7
  · have ht : bothP l m = true := by unfold bothP; rw [h1, h2, decide_eq_true h]; rfl
    refine ⟨by rw [ht]; exact isN_yes (by omega) (by omega), ?_, ?_⟩
    · rw [asideR_yes ⟨h, by omega⟩]; unfold asideO; rw [if_pos ht]
    · rw [asideR_yes ⟨by rw [List.length_reverse, List.length_reverse]; exact h, by rw [List.length_reverse, List.length_reverse]; omega⟩, ← under_rev]; unfold underO; rw [if_pos ht]
  · have ht : bothP l m = false := by unfold bothP; rw [decide_eq_false h, Bool.and_false]
    refine ⟨by rw [ht]; exact isN_no (by omega), ?_, ?_⟩
    · rw [asideR_no (by omega)]; unfold asideO; rw [ht]; rfl
    · rw [asideR_no (by rw [List.length_reverse, List.length_reverse]; omega)]; unfold underO; rw [ht]; rfl
theorem two_no {l m : List Int} (h : isP l = false ∨ isP m = false) : bothP l m = false ∧ asideO l m = [] ∧ underO l m = [] := by
  have ht : bothP l m = false := by
    unfold bothP
    rcases h with h | h <;> rw [h] <;> simp
  exact ⟨ht, by unfold asideO; rw [ht]; rfl, by unfold underO; rw [ht]; rfl⟩

theorem own_none (w : World) (base : Nat) : w.ownsRow base 3 1 (.slice none 0 0) 0 [] := ⟨rfl, .inl ⟨rfl, rfl⟩⟩
set_option maxRecDepth 100000 in
set_option maxHeartbeats 4000000 in
theorem joinPermAside_any (ao bo : Option Addr) (ca cb : Nat) (l m : List Int) (w : World) (hl : l.length ≤ 1048576) (hm : m.length ≤ 1048576) (hc : CellsAt w ao (l.map (Value.int .i64))) (hd : CellsAt w bo (m.map (Value.int .i64))) :
    Calls Try.prog 50 #[.slice ao l.length ca, .slice bo m.length cb, .func (.func 51) #[] #[]] w fun e w' => NumsRet w.heap.size (asideO l m) (bothP l m) e w' ∧ Below w.heap.size w w' := by
  have HR1 := Lib.hid (read_any ao ca l w hl hc)
  have HR2 := Lib.hid (fun (w1 : World) (hb : Below w.heap.size w w1) => read_any bo cb m w1 hm (hd.below hb))
  have hf1 := padL_len (orNil_few l).len
  have hf2 := padL_len (orNil_few m).len
  have HS1 := Lib.hid (perm_size hf1)
  have HS2 := Lib.hid (perm_size hf2)
  have HN1 := Lib.hid (numC_one (padL (orNil l)))
  have HN2 := Lib.hid (numC_one (padL (orNil m)))
  have HZ1 := Lib.hid (show (#[.int .i64 0, .int .i64 0, .int .i64 0, .int .i64 0, .int .i64 0, .int .i64 0, .int .i64 0] : Array Value).size = (numC (padL (orNil l))).size by rw [numC_size, hf1]; rfl)
  have HZ2 := Lib.hid (show (#[.int .i64 0, .int .i64 0, .int .i64 0, .int .i64 0, .int .i64 0, .int .i64 0, .int .i64 0] : Array Value).size = (numC (padL (orNil m))).size by rw [numC_size, hf2]; rfl)
  clear hf1 hf2 hc hd
  by_cases hb : isP l = true ∧ isP m = true
  · obtain ⟨h1, h2⟩ := hb
    obtain ⟨e1, e2, e3⟩ := two_len h1 h2
    have hR := asideO_Few l m
    have HFN := Lib.hid (fun (w : World) => aside_any (isP_few h1) (isP_few h2) w)
    rw [e1, e2] at HFN
    have hf3 := padL_len hR.len
    have HS3 := Lib.hid (perm_size hf3)
    have HN3 := Lib.hid (numC_one (padL (asideO l m)))
    have HZ3 := Lib.hid (show (#[.int .i64 0, .int .i64 0, .int .i64 0, .int .i64 0, .int .i64 0, .int .i64 0, .int .i64 0] : Array Value).size = (numC (padL (asideO l m))).size by rw [numC_size, hf3]; rfl)
    have HLI := Lib.hid (fun w => list_any hR.lo w)
    rw [h1] at HR1
    rw [h2] at HR2
    rw [orNil_yes h1] at HR1 HS1 HN1 HZ1
    rw [orNil_yes h2] at HR2 HS2 HN2 HZ2
    clear hf3 h1 h2 hR e1 e2 e3
    generalize numC (padL l) = L at *
    generalize numC (padL m) = M at *
    generalize numC (padL (asideO l m)) = D at *
    generalize asideO l m = R at *
    generalize bothP l m = ok at *
    go_enter Try.func50, Try.ntmps50
    go_wp2_with (first
        | (refine wpList_store_new rfl 35 _ _ rfl _ #[.int .i64 0, .int .i64 0, .int .i64 0, .int .i64 0, .int .i64 0, .int .i64 0, .int .i64 0] L rfl rfl rfl HS1.out HZ1.out HN1.out ?_)
        | (refine wpList_store_new rfl 35 _ _ rfl _ #[.int .i64 0, .int .i64 0, .int .i64 0, .int .i64 0, .int .i64 0, .int .i64 0, .int .i64 0] M rfl rfl rfl HS2.out HZ2.out HN2.out ?_)
        | (refine wpList_store_new rfl 35 _ _ rfl _ #[.int .i64 0, .int .i64 0, .int .i64 0, .int .i64 0, .int .i64 0, .int .i64 0, .int .i64 0] D rfl rfl rfl HS3.out HZ3.out HN3.out ?_)
        | (go_at_call 41; refine HR1.out.mono ?_; rintro e w1 ⟨rfl, hb1⟩; clear HR1; have hb2 := hb1.alloc hb1.size (.cells L 35); have k1 := HeldB.new w1 35 L)
        | (go_at_call 41; refine (HR2.out _ hb2).mono ?_; rintro e w3 ⟨rfl, hb3⟩; clear HR2; have hb4 := below_step hb2 hb2.size hb3; have hb5 := hb4.alloc hb4.size (.cells M 35); have k2 := (k1.below hb3).alloc (.cells M 35); have m2 := HeldB.new w3 35 M)
        | (refine wpList_load_row rfl 35 _ rfl w1.heap.size rfl 35 L (0, 0) _ k2 Try.underlying35 rfl HS1.out ?_)
        | (refine wpList_load_row rfl 35 _ rfl w3.heap.size rfl 35 M (0, 0) _ m2 Try.underlying35 rfl HS2.out ?_)
        | (go_at_call 51; refine (HFN.out _).mono ?_; rintro e w6 ⟨rfl, hb6⟩; clear HFN; have hb7 := below_step hb5 hb5.size hb6; have d7 := HeldB.new w6 35 D; have hb8 := hb7.alloc hb7.size (.cells D 35))
        | (refine wpList_load_row rfl 35 _ rfl w6.heap.size rfl 35 D (0, 0) _ d7 Try.underlying35 rfl HS3.out ?_)
        | (go_at_call 47; refine (HLI.out _).mono ?_; rintro e w9 ⟨g, c, rfl, ho, hb9⟩))
    have hb10 := below_step hb8 hb8.size hb9
    go_ret2
    exact ⟨⟨_, _, rfl, ownsRow_base ho hb8.size⟩, hb10⟩
  · have hor : isP l = false ∨ isP m = false := by
      cases h1 : isP l
      · exact .inl rfl
      · cases h2 : isP m
        · exact .inr rfl
        · exact absurd ⟨h1, h2⟩ hb
    obtain ⟨e1, e2, e3⟩ := two_no hor
    rw [e1, e2]
    generalize numC (padL (orNil l)) = L at *
    generalize numC (padL (orNil m)) = M at *
    clear hb e1 e2 e3
    cases h1 : isP l
    · rw [h1] at HR1
      clear hor h1
      generalize isP m = p2 at *
      go_enter Try.func50, Try.ntmps50
      go_wp2_with (first
        | (refine wpList_store_new rfl 35 _ _ rfl _ #[.int .i64 0, .int .i64 0, .int .i64 0, .int .i64 0, .int .i64 0, .int .i64 0, .int .i64 0] L rfl rfl rfl HS1.out HZ1.out HN1.out ?_)
        | (refine wpList_store_new rfl 35 _ _ rfl _ #[.int .i64 0, .int .i64 0, .int .i64 0, .int .i64 0, .int .i64 0, .int .i64 0, .int .i64 0] M rfl rfl rfl HS2.out HZ2.out HN2.out ?_)
        | (go_at_call 41; refine HR1.out.mono ?_; rintro e w1 ⟨rfl, hb1⟩; clear HR1; have hb2 := hb1.alloc hb1.size (.cells L 35); have k1 := HeldB.new w1 35 L)
        | (go_at_call 41; refine (HR2.out _ hb2).mono ?_; rintro e w3 ⟨rfl, hb3⟩; clear HR2; have hb4 := below_step hb2 hb2.size hb3; have k2 := (k1.below hb3).alloc (.cells M 35); have m2 := HeldB.new w3 35 M))
      have hb5 := hb4.alloc hb4.size (.cells M 35)
      go_ret2
      exact ⟨⟨none, 0, rfl, by rw [List.map_nil]; exact own_none _ _⟩, hb5⟩
    · have h2 : isP m = false := by rcases hor with h | h; (· rw [h1] at h; cases h); (· exact h)
      rw [h1] at HR1
      rw [h2] at HR2
      clear hor h1 h2
      go_enter Try.func50, Try.ntmps50
      go_wp2_with (first
        | (refine wpList_store_new rfl 35 _ _ rfl _ #[.int .i64 0, .int .i64 0, .int .i64 0, .int .i64 0, .int .i64 0, .int .i64 0, .int .i64 0] L rfl rfl rfl HS1.out HZ1.out HN1.out ?_)
        | (refine wpList_store_new rfl 35 _ _ rfl _ #[.int .i64 0, .int .i64 0, .int .i64 0, .int .i64 0, .int .i64 0, .int .i64 0, .int .i64 0] M rfl rfl rfl HS2.out HZ2.out HN2.out ?_)
        | (go_at_call 41; refine HR1.out.mono ?_; rintro e w1 ⟨rfl, hb1⟩; clear HR1; have hb2 := hb1.alloc hb1.size (.cells L 35); have k1 := HeldB.new w1 35 L)
        | (go_at_call 41; refine (HR2.out _ hb2).mono ?_; rintro e w3 ⟨rfl, hb3⟩; clear HR2; have hb4 := below_step hb2 hb2.size hb3; have k2 := (k1.below hb3).alloc (.cells M 35); have m2 := HeldB.new w3 35 M))
      have hb5 := hb4.alloc hb4.size (.cells M 35)
      go_ret2
      exact ⟨⟨none, 0, rfl, by rw [List.map_nil]; exact own_none _ _⟩, hb5⟩
set_option maxRecDepth 100000 in
theorem implPermAside_any (ao bo : Option Addr) (ca cb : Nat) (l m : List Int) (w : World) (hl : l.length ≤ 1048576) (hm : m.length ≤ 1048576) (hc : CellsAt w ao (l.map (Value.int .i64))) (hd : CellsAt w bo (m.map (Value.int .i64))) :
    Calls Try.prog 29 #[.slice ao l.length ca, .slice bo m.length cb] w fun e w' => NumsRet w.heap.size (asideO l m) (bothP l m) e w' ∧ Below w.heap.size w w' := by
  have HJ := Lib.hid (joinPermAside_any ao bo ca cb l m w hl hm hc hd)
  generalize asideO l m = R at *
  generalize bothP l m = ok at *
  go_enter Try.func29, Try.ntmps29
  go_wp2_with (go_at_call 50; refine HJ.out.mono ?_; rintro e w1 ⟨⟨ro, rc, rfl, ho⟩, hb⟩)
  go_ret2
  exact ⟨⟨_, _, rfl, ho⟩, hb⟩
set_option maxRecDepth 100000 in
set_option maxHeartbeats 4000000 in
theorem joinPermUnder_any (ao bo : Option Addr) (ca cb : Nat) (l m : List Int) (w : World) (hl : l.length ≤ 1048576) (hm : m.length ≤ 1048576) (hc : CellsAt w ao (l.map (Value.int .i64))) (hd : CellsAt w bo (m.map (Value.int .i64))) :
    Calls Try.prog 50 #[.slice ao l.length ca, .slice bo m.length cb, .func (.func 52) #[] #[]] w fun e w' => NumsRet w.heap.size (underO l m) (bothP l m) e w' ∧ Below w.heap.size w w' := by
  have HR1 := Lib.hid (read_any ao ca l w hl hc)
  have HR2 := Lib.hid (fun (w1 : World) (hb : Below w.heap.size w w1) => read_any bo cb m w1 hm (hd.below hb))
  have hf1 := padL_len (orNil_few l).len
  have hf2 := padL_len (orNil_few m).len
  have HS1 := Lib.hid (perm_size hf1)
  have HS2 := Lib.hid (perm_size hf2)
  have HN1 := Lib.hid (numC_one (padL (orNil l)))
  have HN2 := Lib.hid (numC_one (padL (orNil m)))
  have HZ1 := Lib.hid (show (#[.int .i64 0, .int .i64 0, .int .i64 0, .int .i64 0, .int .i64 0, .int .i64 0, .int .i64 0] : Array Value).size = (numC (padL (orNil l))).size by rw [numC_size, hf1]; rfl)
  have HZ2 := Lib.hid (show (#[.int .i64 0, .int .i64 0, .int .i64 0, .int .i64 0, .int .i64 0, .int .i64 0, .int .i64 0] : Array Value).size = (numC (padL (orNil m))).size by rw [numC_size, hf2]; rfl)
  clear hf1 hf2 hc hd
  by_cases hb : isP l = true ∧ isP m = true
  · obtain ⟨h1, h2⟩ := hb
    obtain ⟨e1, e2, e3⟩ := two_len h1 h2
    have hR := underO_Few l m
    have HFN := Lib.hid (fun (w : World) => undr_any (isP_few h1) (isP_few h2) w)
    rw [e1, e3] at HFN
    have hf3 := padL_len hR.len
    have HS3 := Lib.hid (perm_size hf3)
    have HN3 := Lib.hid (numC_one (padL (underO l m)))
    have HZ3 := Lib.hid (show (#[.int .i64 0, .int .i64 0, .int .i64 0, .int .i64 0, .int .i64 0, .int .i64 0, .int .i64 0] : Array Value).size = (numC (padL (underO l m))).size by rw [numC_size, hf3]; rfl)
    have HLI := Lib.hid (fun w => list_any hR.lo w)
    rw [h1] at HR1
    rw [h2] at HR2
    rw [orNil_yes h1] at HR1 HS1 HN1 HZ1
    rw [orNil_yes h2] at HR2 HS2 HN2 HZ2
    clear hf3 h1 h2 hR e1 e2 e3
    generalize numC (padL l) = L at *
    generalize numC (padL m) = M at *
    generalize numC (padL (underO l m)) = D at *
    generalize underO l m = R at *
    generalize bothP l m = ok at *
    go_enter Try.func50, Try.ntmps50
    go_wp2_with (first
        | (refine wpList_store_new rfl 35 _ _ rfl _ #[.int .i64 0, .int .i64 0, .int .i64 0, .int .i64 0, .int .i64 0, .int .i64 0, .int .i64 0] L rfl rfl rfl HS1.out HZ1.out HN1.out ?_)
        | (refine wpList_store_new rfl 35 _ _ rfl _ #[.int .i64 0, .int .i64 0, .int .i64 0, .int .i64 0, .int .i64 0, .int .i64 0, .int .i64 0] M rfl rfl rfl HS2.out HZ2.out HN2.out ?_)
        | (refine wpList_store_new rfl 35 _ _ rfl _ #[.int .i64 0, .int .i64 0, .int .i64 0, .int .i64 0, .int .i64 0, .int .i64 0, .int .i64 0] D rfl rfl rfl HS3.out HZ3.out HN3.out ?_)
        | (go_at_call 41; refine HR1.out.mono ?_; rintro e w1 ⟨rfl, hb1⟩; clear HR1; have hb2 := hb1.alloc hb1.size (.cells L 35); have k1 := HeldB.new w1 35 L)
        | (go_at_call 41; refine (HR2.out _ hb2).mono ?_; rintro e w3 ⟨rfl, hb3⟩; clear HR2; have hb4 := below_step hb2 hb2.size hb3; have hb5 := hb4.alloc hb4.size (.cells M 35); have k2 := (k1.below hb3).alloc (.cells M 35); have m2 := HeldB.new w3 35 M)
        | (refine wpList_load_row rfl 35 _ rfl w1.heap.size rfl 35 L (0, 0) _ k2 Try.underlying35 rfl HS1.out ?_)
        | (refine wpList_load_row rfl 35 _ rfl w3.heap.size rfl 35 M (0, 0) _ m2 Try.underlying35 rfl HS2.out ?_)
        | (go_at_call 52; refine (HFN.out _).mono ?_; rintro e w6 ⟨rfl, hb6⟩; clear HFN; have hb7 := below_step hb5 hb5.size hb6; have d7 := HeldB.new w6 35 D; have hb8 := hb7.alloc hb7.size (.cells D 35))
        | (refine wpList_load_row rfl 35 _ rfl w6.heap.size rfl 35 D (0, 0) _ d7 Try.underlying35 rfl HS3.out ?_)
        | (go_at_call 47; refine (HLI.out _).mono ?_; rintro e w9 ⟨g, c, rfl, ho, hb9⟩))
    have hb10 := below_step hb8 hb8.size hb9
    go_ret2
    exact ⟨⟨_, _, rfl, ownsRow_base ho hb8.size⟩, hb10⟩
  · have hor : isP l = false ∨ isP m = false := by
      cases h1 : isP l
      · exact .inl rfl
      · cases h2 : isP m
        · exact .inr rfl
        · exact absurd ⟨h1, h2⟩ hb
    obtain ⟨e1, e2, e3⟩ := two_no hor
    rw [e1, e3]
    generalize numC (padL (orNil l)) = L at *
    generalize numC (padL (orNil m)) = M at *
    clear hb e1 e2 e3
    cases h1 : isP l
    · rw [h1] at HR1
      clear hor h1
      generalize isP m = p2 at *
      go_enter Try.func50, Try.ntmps50
      go_wp2_with (first
        | (refine wpList_store_new rfl 35 _ _ rfl _ #[.int .i64 0, .int .i64 0, .int .i64 0, .int .i64 0, .int .i64 0, .int .i64 0, .int .i64 0] L rfl rfl rfl HS1.out HZ1.out HN1.out ?_)
        | (refine wpList_store_new rfl 35 _ _ rfl _ #[.int .i64 0, .int .i64 0, .int .i64 0, .int .i64 0, .int .i64 0, .int .i64 0, .int .i64 0] M rfl rfl rfl HS2.out HZ2.out HN2.out ?_)
        | (go_at_call 41; refine HR1.out.mono ?_; rintro e w1 ⟨rfl, hb1⟩; clear HR1; have hb2 := hb1.alloc hb1.size (.cells L 35); have k1 := HeldB.new w1 35 L)
        | (go_at_call 41; refine (HR2.out _ hb2).mono ?_; rintro e w3 ⟨rfl, hb3⟩; clear HR2; have hb4 := below_step hb2 hb2.size hb3; have k2 := (k1.below hb3).alloc (.cells M 35); have m2 := HeldB.new w3 35 M))
      have hb5 := hb4.alloc hb4.size (.cells M 35)
      go_ret2
      exact ⟨⟨none, 0, rfl, by rw [List.map_nil]; exact own_none _ _⟩, hb5⟩
    · have h2 : isP m = false := by rcases hor with h | h; (· rw [h1] at h; cases h); (· exact h)
      rw [h1] at HR1
      rw [h2] at HR2
      clear hor h1 h2
      go_enter Try.func50, Try.ntmps50
      go_wp2_with (first
        | (refine wpList_store_new rfl 35 _ _ rfl _ #[.int .i64 0, .int .i64 0, .int .i64 0, .int .i64 0, .int .i64 0, .int .i64 0, .int .i64 0] L rfl rfl rfl HS1.out HZ1.out HN1.out ?_)
        | (refine wpList_store_new rfl 35 _ _ rfl _ #[.int .i64 0, .int .i64 0, .int .i64 0, .int .i64 0, .int .i64 0, .int .i64 0, .int .i64 0] M rfl rfl rfl HS2.out HZ2.out HN2.out ?_)
        | (go_at_call 41; refine HR1.out.mono ?_; rintro e w1 ⟨rfl, hb1⟩; clear HR1; have hb2 := hb1.alloc hb1.size (.cells L 35); have k1 := HeldB.new w1 35 L)
        | (go_at_call 41; refine (HR2.out _ hb2).mono ?_; rintro e w3 ⟨rfl, hb3⟩; clear HR2; have hb4 := below_step hb2 hb2.size hb3; have k2 := (k1.below hb3).alloc (.cells M 35); have m2 := HeldB.new w3 35 M))
      have hb5 := hb4.alloc hb4.size (.cells M 35)
      go_ret2
      exact ⟨⟨none, 0, rfl, by rw [List.map_nil]; exact own_none _ _⟩, hb5⟩
set_option maxRecDepth 100000 in
theorem implPermUnder_any (ao bo : Option Addr) (ca cb : Nat) (l m : List Int) (w : World) (hl : l.length ≤ 1048576) (hm : m.length ≤ 1048576) (hc : CellsAt w ao (l.map (Value.int .i64))) (hd : CellsAt w bo (m.map (Value.int .i64))) :
    Calls Try.prog 31 #[.slice ao l.length ca, .slice bo m.length cb] w fun e w' => NumsRet w.heap.size (underO l m) (bothP l m) e w' ∧ Below w.heap.size w w' := by
  have HJ := Lib.hid (joinPermUnder_any ao bo ca cb l m w hl hm hc hd)
  generalize underO l m = R at *
  generalize bothP l m = ok at *
  go_enter Try.func31, Try.ntmps31
  go_wp2_with (go_at_call 50; refine HJ.out.mono ?_; rintro e w1 ⟨⟨ro, rc, rfl, ho⟩, hb⟩)
  go_ret2
  exact ⟨⟨_, _, rfl, ho⟩, hb⟩

end Go.Proofs.Ytkpjlglfhhdcbaa
