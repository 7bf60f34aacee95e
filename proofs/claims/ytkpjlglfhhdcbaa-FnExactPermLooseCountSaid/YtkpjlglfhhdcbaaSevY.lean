
/-
  Permutations put together: the model's answers. (Walks.)
-/
import Derived.Test.YtkpjlglfhhdcbaaSevX
import Derived.Test.YtkpjlglfhhdcbaaSevC
import Derived.Maps.AppendAt
import Derived.WideShapes
namespace Go.Proofs.Ytkpjlglfhhdcbaa
open Go.WideShapes Go.RowKit

/-- numbers are put behind numbers of the call's own -/
theorem wpList_pushN {P : Program} (w : World) {ops : Array Oper} {rest : List Oper} {o : Oper} {a : Act} {Q : Exit → Act → World → Prop} (hgd : o.guard = none) (s x : Operand) (t : TypeId)
    (ho : o.op = .call { callee := .builtin .append, args := #[s, x], argTypes := #[t, t] })
    (base : Nat) (e : TypeId) (i : TypeInfo) (z : Value) (bytes : Nat) (ht : P.underlying t = some (.slice e)) (hi : P.info? e = some i) (hz : i.zero = some z)
    (hsize : i.size = 1) (hby : i.bytes = bytes) (hzs : z.cells.size = 1) (ao : Option Addr) (n cap : Nat) (xs : List Value) (hs : a.eval s = .slice ao n cap) (hown : w.ownsRow base e 1 (.slice ao n cap) n xs)
    (us : List Value) (m N : Nat) (hN : n + m = N) (g off c : Nat) (hx : a.eval x = .slice (some ⟨g, off, none⟩) m c) (hl : us.length = m) (hu : ∀ j v, us[j]? = some v → w.cell? ⟨g, off + j, none⟩ = some v) (h1 : ∀ v ∈ us, v.oneCell' = true) (h63 : n + m ≤ maxLen) (hbytes : (n + m) * bytes ≤ 140737488355328) (hbase : base ≤ w.heap.size)
    (h : ∀ ao' cap' w', w'.ownsRow base e 1 (.slice ao' N cap') N (xs ++ us) → w.grownBy w' (Value.ownBlock (.slice ao n cap)) → wpList P ops Q rest (a.put o.dst (.slice ao' N cap')) w') : wpList P ops Q (o :: rest) a w := by
  subst hN
  refine Go.wpList_append_own_at w hgd s x t ho base e i z 1 bytes ht hi hz hsize hby hzs (by decide) _ n xs hs hown ⟨g, off, none⟩ m c us hx (by omega) (fun j u hj => by rw [← hu j u hj, add_plain]) h1 h63 hbytes hbase ?_
  intro v' w' hown' hg _ _
  obtain ⟨ao', cap', rfl, _, _⟩ := ownsRow_cells hown'
  exact h ao' cap' w' hown' hg
theorem ints_one (l : List Int) : ∀ v ∈ l.map (Value.int .i64), v.oneCell' = true := fun v hv => by
  obtain ⟨_, _, rfl⟩ := List.mem_map.1 hv
  rfl
theorem cells_at {w : World} {b off : Nat} {xs : List Value} (h : CellsAt w (some ⟨b, off, none⟩) xs) : ∀ j v, xs[j]? = some v → w.cell? ⟨b, off + j, none⟩ = some v := fun j v hj => by
  obtain ⟨b', off', e, hc⟩ := h j v hj
  cases e
  exact hc

set_option maxRecDepth 100000 in
set_option maxHeartbeats 2000000 in
theorem l6More_any (ao : Option Addr) (cap k : Nat) (l : List Int) (w : World) (h : Low l) (hk : k ≤ 7) (hc : CellsAt w ao (l.map (Value.int .i64))) :
    Calls Try.prog 49 #[.slice ao l.length cap, .int .i64 (k : Int)] w fun e w' => ∃ ro rc, e = .returned (.slice ro l.length rc) ∧ w'.ownsRow w.heap.size 3 1 (.slice ro l.length rc) l.length ((moreL l k).map (Value.int .i64)) ∧ Below w.heap.size w w' := by
  obtain ⟨it, hti, htz, ht1, ht2⟩ := info_parts info_numC
  have hb0 := below_alloc w (.cells #[] 3)
  have hr0 := none_made w
  have h7 := h.len
  have HL := Lib.hid h
  have hml := moreL_len l k
  have HML := Lib.hid hml; clear hml h
  go_enter Try.func49, Try.ntmps49
  go_wp2
  go_loopw [5, 6] (fun vo vi wr => ∃ (i : Nat) (ro : Option Addr) (rc : Nat), i ≤ l.length ∧ vi = .int .i64 i ∧ vo = .slice ro i rc ∧ wr.ownsRow w.heap.size 3 1 (.slice ro i rc) i (((moreL l k).take i).map (Value.int .i64)) ∧ Below w.heap.size w wr) (fun _ vi _ => l.length - (intOf vi).toNat)
  case atStart => exact ⟨0, _, _, Nat.zero_le _, rfl, rfl, hr0, hb0⟩
  case round =>
    clear hr0 hb0
    obtain ⟨i, ro, rc, hi, rfl, rfl, hrow, hb⟩ := hrel
    by_cases hlt : i < l.length
    · obtain ⟨b, off, rfl, hcell⟩ := (hc.below hb).int i hlt
      have hlo := HL.out.at hlt
      have HSU := Lib.hid (take_succ_getD (moreL l k) i 0 (by rw [HML.out]; exact hlt))
      rw [moreL_at hlt] at HSU
      have HC := Lib.hid hc; clear hc
      have hbs := hb.size
      have hb1' : i + 1 ≤ maxLen := by unfold maxLen; omega
      have hb2' : (i + 1) * 8 ≤ 140737488355328 := by omega
      generalize l.getD i 0 = x at *
      go_wp2_with (at_builtin; refine wpList_push _ rfl _ _ 22 rfl w.heap.size 3 it (.int .i64 0) 8 Try.underlying22 hti htz ht1 ht2 rfl ro i rc _ rfl (hrow.alloc _) _ _ _ rfl (cell_new _ _ _) rfl hb1' hb2' (by simp; omega) ?_; intro ro2 rc2 w4 hrow2 hg2 hnew2)
      go_roundw
      case rel => exact ⟨i + 1, ro2, rc2, by omega, by go_num, rfl, owns_eq hrow2 (by rw [HSU.out, List.map_append]; rfl), below_push hb hbs hg2 (fun a ha => (owns_lt hrow a ha).1)⟩
      case measure => simp [intOf]; omega
    · obtain rfl : i = l.length := by omega
      rw [List.take_of_length_le (by rw [HML.out]; exact Nat.le_refl _)] at hrow
      go_wp2
      go_ret
      exact ⟨_, _, rfl, hrow, hb⟩

set_option maxRecDepth 100000 in
set_option maxHeartbeats 4000000 in
theorem specPermAside_any (ao bo : Option Addr) (ca cb : Nat) (l m : List Int) (w : World) (hl : l.length ≤ 1048576) (hm : m.length ≤ 1048576) (hc : CellsAt w ao (l.map (Value.int .i64))) (hd : CellsAt w bo (m.map (Value.int .i64))) :
    Calls Try.prog 28 #[.slice ao l.length ca, .slice bo m.length cb] w fun e w' => NumsRet w.heap.size (asideO l m) (bothP l m) e w' ∧ Below w.heap.size w w' := by
  obtain ⟨it, hti, htz, ht1, ht2⟩ := info_parts info_numC
  have HP := Lib.hid (specPermIn_same ao ca l w hl hc)
  have HQ := Lib.hid (specPermIn_same bo cb m w hm hd)
  have hb0 := below_alloc w (.cells #[] 3)
  have hr0 := none_made w
  cases h1 : isP l
  · obtain ⟨e1, e2, e3⟩ := two_no (l := l) (m := m) (.inl h1)
    rw [h1] at HP
    rw [e1, e2]
    clear e1 e2 e3 HQ
    go_enter Try.func28, Try.ntmps28
    go_wp2_with (go_at_call 14; refine HP.out.mono ?_; rintro e w1 ⟨rfl, rfl⟩)
    go_ret2
    exact ⟨⟨_, _, rfl, hr0⟩, hb0⟩
  · cases h2 : isP m
    · obtain ⟨e1, e2, e3⟩ := two_no (l := l) (m := m) (.inr h2)
      rw [h1] at HP
      rw [h2] at HQ
      rw [e1, e2]
      clear e1 e2 e3
      go_enter Try.func28, Try.ntmps28
      go_wp2_with fail
      refine HP.out.mono ?_
      rintro e w1 ⟨rfl, rfl⟩
      go_wp2_with fail
      refine HQ.out.mono ?_
      rintro e w1 ⟨rfl, rfl⟩
      go_wp2
      go_ret2
      exact ⟨⟨_, _, rfl, hr0⟩, hb0⟩
    · obtain ⟨e1, e2, e3⟩ := two_len h1 h2
      by_cases h7 : l.length + m.length ≤ 7
      · have ht : bothP l m = true := by unfold bothP; rw [h1, h2, decide_eq_true h7]; rfl
        have hres : asideO l m = asideL l m := by unfold asideO; rw [if_pos ht]
        have p1 := isP_pos h1
        have p2 := isP_pos h2
        have f2 := isP_few h2
        rw [h1] at HP
        rw [h2] at HQ
        rw [ht, hres]
        clear e1 e2 e3 ht hres h1 h2
        have h7f : decide ((7 : Int) < (l.length : Int) + (m.length : Int)) = false := decide_eq_false (by omega)
        go_enter Try.func28, Try.ntmps28
        go_wp2_with fail
        refine HP.out.mono ?_
        rintro e W ⟨rfl, rfl⟩
        go_wp2_with fail
        refine HQ.out.mono ?_
        rintro e W ⟨rfl, rfl⟩
        obtain ⟨b, off, rfl, _⟩ := hc.int 0 p1
        obtain ⟨b2, off2, rfl, _⟩ := hd.int 0 p2
        have hLM := fun w1 (hb : Below W.heap.size W w1) => l6More_any (some ⟨b2, off2, none⟩) cb l.length m w1 f2.lo (by omega) (hd.below hb)
        have HLM := Lib.hid hLM; clear hLM
        have HMN := Lib.hid (moreL_len m l.length)
        have HON := Lib.hid (ints_one l)
        have HOM := Lib.hid (ints_one (moreL m l.length))
        have ha1 : l.length ≤ maxLen := by unfold maxLen; omega
        have HF2 := Lib.hid f2; clear f2
        have HCL := Lib.hid (cells_at (hc.below hb0))
        go_wp2_with (at_builtin; refine wpList_pushN _ rfl _ _ 22 rfl W.heap.size 3 it (.int .i64 0) 8 Try.underlying22 hti htz ht1 ht2 rfl (some ⟨W.heap.size, 0, none⟩) 0 0 _ rfl hr0 (l.map (Value.int .i64)) l.length l.length (Nat.zero_add _) b off ca rfl (by simp) HCL.out HON.out (by unfold maxLen; omega) (by omega) (by simp) ?_; intro ro1 rc1 w2 hrow1 hg1)
        have hb1 : Below W.heap.size W w2 := hb0.trans (below_of_grownBy hg1 (by simp) (fun k hk => by simp [Value.ownBlock] at hk; omega))
        go_wp2_with fail
        refine (HLM.out w2 hb1).mono ?_
        rintro e w3 ⟨ro2, rc2, rfl, hrow2, hb2⟩
        obtain ⟨g2, cp2, e2, _, _⟩ := ownsRow_some hrow2 (by omega)
        simp only [Value.slice.injEq, true_and] at e2
        obtain ⟨rfl, rfl⟩ := e2
        have hc2 := owns_cells hrow2
        have HC2 := Lib.hid (cells_at hc2)
        have hrow3 := ownsRow_below hrow1 hb2
        have hb3 := below_step hb1 hb1.size hb2
        have hB3 := hb3.size
        clear hc2 hrow1 hg1
        go_wp2_with (at_builtin; refine wpList_pushN _ rfl _ _ 22 rfl W.heap.size 3 it (.int .i64 0) 8 Try.underlying22 hti htz ht1 ht2 rfl ro1 l.length rc1 _ rfl hrow3 ((moreL m l.length).map (Value.int .i64)) m.length (l.length + m.length) rfl g2 0 rc2 rfl (by rw [List.length_map]; exact HMN.out) HC2.out HOM.out (by unfold maxLen; omega) (by omega) hB3 ?_; intro ro4 rc4 w4 hrow4 hg4)
        have hb4 : Below W.heap.size W w4 := hb3.trans (below_of_grownBy hg4 hB3 (fun k hk => by
          cases ro1 with
          | none => simp [Value.ownBlock] at hk
          | some a => simp only [Value.ownBlock, Option.some.injEq] at hk; subst hk; exact (owns_lt hrow3 a rfl).1))
        have HAL := Lib.hid (asideL_len l m)
        go_ret2
        exact ⟨⟨_, _, by rw [HAL.out]; rfl, by rw [HAL.out]; exact owns_eq hrow4 (by unfold asideL; rw [List.map_nil, List.nil_append, List.map_append])⟩, hb4⟩
      · have ht : bothP l m = false := by unfold bothP; rw [decide_eq_false h7, Bool.and_false]
        have hres : asideO l m = [] := by unfold asideO; rw [ht]; rfl
        rw [h1] at HP
        rw [h2] at HQ
        rw [ht, hres]
        clear e1 e2 e3 ht hres h1 h2
        have h7f : decide ((7 : Int) < (l.length : Int) + (m.length : Int)) = true := decide_eq_true (by omega)
        go_enter Try.func28, Try.ntmps28
        go_wp2_with fail
        refine HP.out.mono ?_
        rintro e w1 ⟨rfl, rfl⟩
        go_wp2_with fail
        refine HQ.out.mono ?_
        rintro e w1 ⟨rfl, rfl⟩
        go_wp2
        go_ret2
        exact ⟨⟨_, _, rfl, hr0⟩, hb0⟩

set_option maxRecDepth 100000 in
set_option maxHeartbeats 4000000 in
theorem specPermUnder_any (ao bo : Option Addr) (ca cb : Nat) (l m : List Int) (w : World) (hl : l.length ≤ 1048576) (hm : m.length ≤ 1048576) (hc : CellsAt w ao (l.map (Value.int .i64))) (hd : CellsAt w bo (m.map (Value.int .i64))) :
    Calls Try.prog 30 #[.slice ao l.length ca, .slice bo m.length cb] w fun e w' => NumsRet w.heap.size (underO l m) (bothP l m) e w' ∧ Below w.heap.size w w' := by
  obtain ⟨it, hti, htz, ht1, ht2⟩ := info_parts info_numC
  have HP := Lib.hid (specPermIn_same ao ca l w hl hc)
  have HQ := Lib.hid (specPermIn_same bo cb m w hm hd)
  have hb0 := below_alloc w (.cells #[] 3)
  have hr0 := none_made w
  cases h1 : isP l
  · obtain ⟨e1, e2, e3⟩ := two_no (l := l) (m := m) (.inl h1)
    rw [h1] at HP
    rw [e1, e3]
    clear e1 e2 e3 HQ
    go_enter Try.func30, Try.ntmps30
    go_wp2_with (go_at_call 14; refine HP.out.mono ?_; rintro e w1 ⟨rfl, rfl⟩)
    go_ret2
    exact ⟨⟨_, _, rfl, hr0⟩, hb0⟩
  · cases h2 : isP m
    · obtain ⟨e1, e2, e3⟩ := two_no (l := l) (m := m) (.inr h2)
      rw [h1] at HP
      rw [h2] at HQ
      rw [e1, e3]
      clear e1 e2 e3
      go_enter Try.func30, Try.ntmps30
      go_wp2_with fail
      refine HP.out.mono ?_
      rintro e w1 ⟨rfl, rfl⟩
      go_wp2_with fail
      refine HQ.out.mono ?_
      rintro e w1 ⟨rfl, rfl⟩
      go_wp2
      go_ret2
      exact ⟨⟨_, _, rfl, hr0⟩, hb0⟩
    · obtain ⟨e1, e2, e3⟩ := two_len h1 h2
      by_cases h7 : l.length + m.length ≤ 7
      · have ht : bothP l m = true := by unfold bothP; rw [h1, h2, decide_eq_true h7]; rfl
        have hres : underO l m = underL l m := by unfold underO; rw [if_pos ht]
        have p1 := isP_pos h1
        have p2 := isP_pos h2
        have f2 := isP_few h2
        rw [h1] at HP
        rw [h2] at HQ
        rw [ht, hres]
        clear e1 e2 e3 ht hres h1 h2
        have h7f : decide ((7 : Int) < (l.length : Int) + (m.length : Int)) = false := decide_eq_false (by omega)
        go_enter Try.func30, Try.ntmps30
        go_wp2_with fail
        refine HP.out.mono ?_
        rintro e W ⟨rfl, rfl⟩
        go_wp2_with fail
        refine HQ.out.mono ?_
        rintro e W ⟨rfl, rfl⟩
        obtain ⟨b, off, rfl, _⟩ := hc.int 0 p1
        obtain ⟨b2, off2, rfl, _⟩ := hd.int 0 p2
        have hLM := fun w1 (hb : Below W.heap.size W w1) => l6More_any (some ⟨b2, off2, none⟩) cb l.length m w1 f2.lo (by omega) (hd.below hb)
        have HLM := Lib.hid hLM; clear hLM
        have HMN := Lib.hid (moreL_len m l.length)
        have HON := Lib.hid (ints_one l)
        have HOM := Lib.hid (ints_one (moreL m l.length))
        have ha1 : l.length ≤ maxLen := by unfold maxLen; omega
        have HF2 := Lib.hid f2; clear f2
        go_wp2_with fail
        refine (HLM.out W (Below.refl _ _)).mono ?_
        rintro e w3 ⟨ro2, rc2, rfl, hrow2, hb2⟩
        have HC2 := Lib.hid (cells_at (hc.below hb2))
        have hB3 := hb2.size
        go_wp2_with (at_builtin; refine wpList_pushN _ rfl _ _ 22 rfl W.heap.size 3 it (.int .i64 0) 8 Try.underlying22 hti htz ht1 ht2 rfl ro2 m.length rc2 _ rfl hrow2 (l.map (Value.int .i64)) l.length (l.length + m.length) (Nat.add_comm _ _) b off ca rfl (by simp) HC2.out HON.out (by unfold maxLen; omega) (by omega) hB3 ?_; intro ro4 rc4 w4 hrow4 hg4)
        have hb4 : Below W.heap.size W w4 := hb2.trans (below_of_grownBy hg4 hB3 (fun k hk => by
          cases ro2 with
          | none => simp [Value.ownBlock] at hk
          | some a => simp only [Value.ownBlock, Option.some.injEq] at hk; subst hk; exact (owns_lt hrow2 a rfl).1))
        have HAL := Lib.hid (underL_len l m)
        go_ret2
        exact ⟨⟨_, _, by rw [HAL.out]; rfl, by rw [HAL.out]; exact owns_eq hrow4 (by unfold underL; rw [List.map_append])⟩, hb4⟩
      · have ht : bothP l m = false := by unfold bothP; rw [decide_eq_false h7, Bool.and_false]
        have hres : underO l m = [] := by unfold underO; rw [ht]; rfl
        rw [h1] at HP
        rw [h2] at HQ
        rw [ht, hres]
        clear e1 e2 e3 ht hres h1 h2
        have h7f : decide ((7 : Int) < (l.length : Int) + (m.length : Int)) = true := decide_eq_true (by omega)
        go_enter Try.func30, Try.ntmps30
        go_wp2_with fail
        refine HP.out.mono ?_
        rintro e w1 ⟨rfl, rfl⟩
        go_wp2_with fail
        refine HQ.out.mono ?_
        rintro e w1 ⟨rfl, rfl⟩
        go_wp2
        go_ret2
        exact ⟨⟨_, _, rfl, hr0⟩, hb0⟩

end Go.Proofs.Ytkpjlglfhhdcbaa
