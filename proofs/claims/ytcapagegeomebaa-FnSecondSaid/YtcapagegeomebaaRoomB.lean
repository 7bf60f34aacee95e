
/-
  A room's box: the program's answer is the model's. (Walk, and the mathematics of it.)
-/
import Derived.Test.YtcapagegeomebaaRoomA
import Derived.Test.YtcapagegeomebaaImplK
namespace Go.Proofs.Ytcapagegeomebaa
open Go.RowKit

/-- the room that is told -/
theorem room_found {p : List ByteArray} (h : planB p = true) (room : Int) :
    (findB (scanB p.length (wideB p) (gridG p) (p.length * wideB p)) room).isSome = givenB p room ∧
    foundC (findB (scanB p.length (wideB p) (gridG p) (p.length * wideB p)) room) = #[.int .i64 (roomV p room).top, .int .i64 (roomV p room).left, .int .i64 (roomV p room).low, .int .i64 (roomV p room).right] := by
  have hp := planP_of h
  obtain ⟨hlen, hbox⟩ := hp.boxes
  generalize scanB p.length (wideB p) (gridG p) (p.length * wideB p) = L at *
  by_cases hr : 0 ≤ room ∧ room ≤ roomsB p - 1
  · have hg : givenB p room = true := by unfold givenB; rw [h, l6B_true hr.1 hr.2]; rfl
    rw [hp.rooms] at hr
    obtain ⟨r, rfl⟩ : ∃ r : Nat, room = (r : Int) := ⟨room.toNat, by omega⟩
    obtain ⟨x, hL, hx⟩ := hbox r (by omega)
    have hf : findB L (r : Int) = some x := by
      have hrl : r < L.length := by omega
      have hsplit : L = L.take r ++ [x] ++ L.drop (r + 1) := by
        have := List.take_append_drop (r + 1) L
        rw [List.take_succ_eq_append_getElem hrl] at this
        have he : L[r] = x := by rw [List.getElem?_eq_getElem hrl] at hL; exact Option.some.inj hL
        rw [he] at this
        exact this.symm
      rw [hsplit]
      refine findB_some (fun y hy => ?_) (by rw [hx.1])
      obtain ⟨s, hs, rfl⟩ := List.getElem_of_mem hy
      rw [List.length_take] at hs
      obtain ⟨z, hz, hzb⟩ := hbox s (by omega)
      have he : (L.take r)[s]'(by rw [List.length_take]; omega) = z := by
        rw [List.getElem_take]
        rw [List.getElem?_eq_getElem (show s < L.length by omega)] at hz
        exact Option.some.inj hz
      rw [he, hzb.1]
      omega
    rw [hf, roomV_yes hg, boxB_box hp hx, hg]
    obtain ⟨_, h1, h2, _⟩ := hx
    refine ⟨rfl, ?_⟩
    unfold foundC
    simp only
    rw [show ((x.row + x.high - 1 : Nat) : Int) - (x.row : Int) + 1 = (x.high : Int) by omega, show ((x.col + x.wide - 1 : Nat) : Int) - (x.col : Int) + 1 = (x.wide : Int) by omega]
  · have hg : givenB p room = false := by
      unfold givenB l6B
      rw [h, decide_eq_false hr]
      rfl
    have hf : findB L room = none := findB_none fun y hy => by
      obtain ⟨s, hs, rfl⟩ := List.getElem_of_mem hy
      obtain ⟨z, hz, hzb⟩ := hbox s (by omega)
      rw [List.getElem?_eq_getElem hs] at hz
      rw [Option.some.inj hz, hzb.1]
      rw [hp.rooms] at hr
      omega
    rw [hf, roomV_no hg, hg]
    exact ⟨rfl, rfl⟩

set_option maxHeartbeats 800000 in
theorem implPlanRoom_any (ao : Option Addr) (cap : Nat) (p : List ByteArray) (room : Int) (w : World) (hl : p.length ≤ 1048576) (hs : ∀ s ∈ p, s.size ≤ 1048576) (hc : CellsAt w ao (p.map Value.string)) :
    Calls Try.prog 20 #[.slice ao p.length cap, .int .i64 room] w fun e w' => e = .returned (.tuple #[.int .i64 (roomV p room).top, .int .i64 (roomV p room).left, .int .i64 (roomV p room).low, .int .i64 (roomV p room).right, .bool (givenB p room)]) ∧ Below w.heap.size w w' := by
  have HS39 := Lib.hid (readC_39 p)
  have HSZ := Lib.hid (readC_size p)
  have HONE := Lib.hid (readC_one p)
  have HRK := Lib.hid (readOk_eq p)
  cases hp : planB p
  · have hg : givenB p room = false := by unfold givenB; rw [hp]; rfl
    rw [roomV_no hg, hg]
    go_enter Try.func20, Try.ntmps20
    go_wp2_with (first
      | (go_at_call 37; refine (readPlan_any _ _ _ _ hl hs hc).mono ?_; rw [HRK.out, hp]; rintro e w1 ⟨rfl, hb1⟩)
      | (refine wpList_alloc_zero rfl 45 rfl zeroC zero_plan ?_)
      | (refine wpList_store_new rfl 45 _ _ rfl w1 zeroC (readC p) rfl rfl rfl HSZ.out (by rw [HS39.out]; rfl) HONE.out ?_))
    refine bodyPost_ret (v := .tuple #[.int .i64 0, .int .i64 0, .int .i64 0, .int .i64 0, .bool false]) (by simp [results, Try.results20, go_sem]) rfl ⟨rfl, hb1.trans ((below_alloc w1 _).mono hb1.size)⟩
  · obtain ⟨hm1, hm2⟩ := room_found hp room
    have hg := (planP_of hp).grid
    have HBO := Lib.hid (fun w => boxOf_any p.length (wideB p) (gridR p) (gridG p) hg.h6 hg.w6 room w)
    have hrc := readC_ok ((readOk_eq p).trans hp)
    rw [← hrc, hm1, hm2] at HBO
    clear hm1 hm2 hg hrc
    obtain ⟨C, hC⟩ : ∃ C, readC p = C := ⟨_, rfl⟩
    rw [hC] at HS39 HSZ HONE HBO
    have HC := Lib.hid hC; clear hC
    generalize (roomV p room).top = v0 at *
    generalize (roomV p room).left = v1 at *
    generalize (roomV p room).low = v2 at *
    generalize (roomV p room).right = v3 at *
    generalize givenB p room = b at *
    go_enter Try.func20, Try.ntmps20
    go_wp2_with (first
      | (go_at_call 37; refine (readPlan_any _ _ _ _ hl hs hc).mono ?_; rw [HRK.out, hp, HC.out]; rintro e w1 ⟨rfl, hb1⟩)
      | (refine wpList_alloc_zero rfl 45 rfl zeroC zero_plan ?_)
      | (refine wpList_store_new rfl 45 _ _ rfl w1 zeroC C rfl rfl rfl HSZ.out (by rw [HS39.out]; rfl) HONE.out ?_; have hG : (w1.alloc (.cells C 45)).heap[w1.heap.size]? = some (.cells C 45 (0, 0)) := HeldB.new w1 45 C)
      | (refine wpList_load_row rfl 45 _ rfl w1.heap.size rfl 45 C (0, 0) _ hG Try.underlying45 rfl HSZ.out ?_)
      | (go_at_call 38; refine (HBO.out _).mono ?_; rintro e w2 ⟨rfl, hb2⟩))
    go_quiet (fail)
    go_wp2
    have hb12 := below_step (hb1.trans ((below_alloc w1 (.cells C 45)).mono hb1.size)) (hb1.trans ((below_alloc w1 (.cells C 45)).mono hb1.size)).size hb2
    refine bodyPost_ret (v := .tuple #[.int .i64 v0, .int .i64 v1, .int .i64 v2, .int .i64 v3, .bool b]) (by simp [results, Try.results20, go_sem]) rfl ⟨rfl, ?_⟩
    exact (hb12.trans ((below_alloc w2 _).mono hb12.size)).trans (below_drewN _ _ _)

end Go.Proofs.Ytcapagegeomebaa
