/-
  The numbers of cells of rooms: the program's answer is the model's. (Walk inside a fence.)
-/
import Derived.Test.YthboiobapmagcaaAreasI
import Derived.Test.YthboiobapmagcaaWideA
namespace Go.Proofs.Ythboiobapmagcaa
open Go.RowKit Go.Shelf

attribute [local go_sem] Oper.semAt_some

theorem areas_math {p : List ByteArray} (h : planB p = true) : areasOr p = areaL (scanB p.length (wideB p) (gridG p) (p.length * wideB p)) := by
  have hp := planP_of h
  obtain ⟨hlen, hbox⟩ := hp.boxes
  rw [areasOr_yes h, hp.rooms, Int.toNat_natCast]
  generalize scanB p.length (wideB p) (gridG p) (p.length * wideB p) = L at *
  apply List.ext_getElem
  · rw [areasL_len, areaL_len, hlen]
  · intro r h1 h2
    rw [areasL_len] at h1
    rw [areaL_len] at h2
    obtain ⟨x, hL, hx⟩ := hbox r h1
    have he : L[r] = x := by rw [List.getElem?_eq_getElem h2] at hL; exact Option.some.inj hL
    have e1 : (areasL p (gridR p))[r]'(by rw [areasL_len]; exact h1) = cellsB p (r : Int) := by simp [areasL]
    have e2 : (areaL L)[r]'(by rw [areaL_len]; exact h2) = ((L[r].high * L[r].wide : Nat) : Int) := by simp [areaL]
    rw [e1, e2, he]
    exact cellsB_box hp hx

set_option maxHeartbeats 800000 in
theorem areas_no (n : Nat) (hn : 6 ≤ n) (ao : Option Addr) (cap : Nat) (p : List ByteArray) (w : World) (hl : p.length ≤ 1048576) (hs : ∀ s ∈ p, s.size ≤ 1048576) (hc : CellsAt w ao (p.map Value.string)) (hr : readOk p = false) :
    CallsIn Fence.wide n Try.prog 47 #[.slice ao p.length cap] w fun e W' => NumsRet w.heap.size [] false e W' ∧ Below w.heap.size w W' := by
  have hF : ∀ k, Fence.wide.fn k := fun _ => trivial
  have hn1 : 1 ≤ n := by omega
  have HRD := Lib.hid (by have := readPlan_any ao cap p w hl hs hc; rw [hr] at this; exact this)
  have HCS := Lib.hid (readC_39 p)
  have HONE := Lib.hid (readC_one p)
  have HSZ := Lib.hid (readC_size p)
  clear hr hc
  generalize readC p = C at *
  refine callsIn_of_wp_marks Try.func47 rfl trivial ?_ rfl
  simp only [Try.ntmps47, List.size_toArray, List.length_cons, List.length_nil, Nat.reduceAdd, Nat.reduceSub, Array.replicate_succ, Array.replicate_zero, List.push_toArray, List.append_toArray, List.nil_append, List.cons_append]
  gi_wp2_with fail
  refine (callsIn_wide.2 HRD.out).mono ?_
  rintro e w1 ⟨rfl, hb1⟩
  gi_wp2_with (first
    | (refine wpListIn_alloc_zero rfl 51 rfl zeroC zero_plan ?_)
    | (refine wpListIn_store_new rfl 51 _ _ rfl w1 zeroC C rfl rfl rfl HSZ.out (by rw [HCS.out]; rfl) HONE.out ?_))
  refine ⟨.tuple #[.slice none 0 0, .bool false], ?_, ⟨none, 0, rfl, ⟨rfl, .inl ⟨rfl, rfl⟩⟩⟩, hb1.trans ((below_alloc w1 _).mono hb1.size)⟩
  simp [results, Try.f47, go_sem]

theorem implAreas_any (ao : Option Addr) (cap : Nat) (p : List ByteArray) (w : World) (hl : p.length ≤ 1048576) (hs : ∀ s ∈ p, s.size ≤ 1048576) (hc : CellsAt w ao (p.map Value.string)) :
    Calls Try.prog 47 #[.slice ao p.length cap] w fun e w' => NumsRet w.heap.size (areasOr p) (planB p) e w' ∧ Below w.heap.size w w' := by
  cases hp : planB p
  · rw [areasOr_no hp]
    exact callsIn_wide.1 (areas_no 6 (Nat.le_refl _) ao cap p w hl hs hc (by rw [readOk_eq]; exact hp))
  · rw [areas_math hp]
    have hr : readOk p = true := by rw [readOk_eq]; exact hp
    have hd := nameDraw_dims (ok_of_read hr)
    exact callsIn_wide.1 (areas_in 6 (Nat.le_refl _) p.length (wideB p) (gridR p) (gridG p) hd.2.1.2 hd.2.2.1.2 hd.2.2.2.1 ao cap p w hl hs hc hr (readC_ok hr))

theorem areas_few (p : List ByteArray) : (areasOr p).length ≤ 1048576 := by
  cases hp : planB p
  · rw [areasOr_no hp]; exact Nat.zero_le _
  · rw [areas_math hp, areaL_len]
    have := scanB_len p.length (wideB p) (gridG p) (p.length * wideB p)
    have hg := (planP_of hp).grid
    have := Nat.mul_le_mul hg.h6 hg.w6
    omega

end Go.Proofs.Ythboiobapmagcaa
