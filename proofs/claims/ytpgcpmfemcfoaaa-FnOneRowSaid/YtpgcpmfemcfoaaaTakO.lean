/-
  Merged texts: Pla Tal Tak.
-/
import Derived.Test.YtpgcpmfemcfoaaaSldO
import Derived.Test.YtpgcpmfemcfoaaaRowO
import Derived.Maps.OwnOps
import Derived.Maps.OwnSet
import Derived.Maps.Views
import Derived.Maps.OwnIn
import Derived.WideKeyEntry
import Derived.DeepKeys4

/-
  The plans of a frame that are as asked: an iterator over another one. (Walks inside a fence.)
-/
namespace Go.Proofs.Ytpgcpmfemcfoaaa
open Go.RowKit Go.Shelf

attribute [local go_sem] Oper.semAt_some

theorem wpListIn_load_rowG {F : Fence} {n : Nat} {P : Program} {ops : Array Oper} {rest : List Oper} {o : Oper} {a : Act} {w : World} {Q : Exit → Act → World → Prop} (hgd : Region.wanted o (yielded ops a.tmps) = true) (ty : TypeId) (x : Operand) (ho : o.op = .load ty x)
    (g : Nat) (hx : a.eval x = .pointer (some ⟨g, 0, none⟩)) (t : TypeId) (cs : Array Value) (fr : Nat × Nat) (d : TypeDesc) (hg : w.heap[g]? = some (.cells cs t fr))
    (hu : P.underlying ty = some d) (hd : (match d with | .struct _ | .array _ _ => true | _ => false) = true) (hi : (P.info? ty).map (·.size) = some cs.size)
    (h : wpListIn F n P ops Q rest (a.put o.dst (.agg cs)) w) : wpListIn F n P ops Q (o :: rest) a w := by
  refine wpListIn_step fun K hK' => ?_
  rw [if_pos hgd]
  unfold Oper.wpIn
  refine ⟨?_, ?_⟩
  · simp [Oper.about, ho]
  · rw [Oper.semAt_plain F _ _ (by rw [ho]; intro c hc'; cases hc')]
    have hr := run_loadVar_row (P := P) w g t ty cs fr d hg hu hd hi
    unfold execOp
    simp only [ho, hx, Instr.loadAt, Instr.sureAddr, Sem.run_bind, Sem.run_pure, Result.andThen_ok, hr]
    exact hK' _ _ h
/-- the plans that are as asked -/
def asked (q : List ByteArray → Bool) (h wd : Nat) (l : List PZ) : List PZ := l.filter fun y => q (txtZ h wd y.2)
theorem asked_yes {q : List ByteArray → Bool} {h wd : Nat} (l : List PZ) {x : PZ} (hq : q (txtZ h wd x.2) = true) : asked q h wd (l ++ [x]) = asked q h wd l ++ [x] := by
  unfold asked; rw [List.filter_append]; simp [hq]
theorem asked_no {q : List ByteArray → Bool} {h wd : Nat} (l : List PZ) {x : PZ} (hq : q (txtZ h wd x.2) = false) : asked q h wd (l ++ [x]) = asked q h wd l := by
  unfold asked; rw [List.filter_append]; simp [hq]
theorem asked_cut {q : List ByteArray → Bool} {h wd : Nat} {l pre rest : List PZ} {x : PZ} (hl : l = pre ++ x :: rest) (hq : q (txtZ h wd x.2) = true) : asked q h wd l = asked q h wd pre ++ x :: asked q h wd rest := by
  subst hl
  unfold asked; rw [List.filter_append]; simp [hq]
theorem KeptFrom.mono {B B' : Nat} {U W : World} (h : KeptFrom B U W) (hB : B ≤ B') : KeptFrom B' U W := ⟨h.1, fun j hj hl => h.2 j (Nat.le_trans hB hj) hl⟩

set_option maxRecDepth 100000 in
theorem plans_any (h wd : Nat) (fv : Value) (h1 : fv.oneCell' = true) (w : World) :
    Calls Try.prog 78 #[.agg #[.int .i64 (h : Int), .int .i64 (wd : Int)], fv] w
      fun e w' => ∃ B, e = .returned (.func (.func 106) #[] #[.pointer (some ⟨B, 0, none⟩), .pointer (some ⟨B + 1, 0, none⟩)]) ∧ B = w.heap.size ∧ HeldB w' B 77 #[.int .i64 (h : Int), .int .i64 (wd : Int)] ∧ HeldB w' (B + 1) 70 #[fv] ∧ Below w.heap.size w w' := by
  have hA := (HeldB.new w 77 #[.int .i64 (h : Int), .int .i64 (wd : Int)]).alloc (.cells #[fv] 70)
  have hB := HeldB.new (w.alloc (.cells #[.int .i64 (h : Int), .int .i64 (wd : Int)] 77)) 70 #[fv]
  have hb := (below_alloc w (.cells #[.int .i64 (h : Int), .int .i64 (wd : Int)] 77)).alloc (by simp) (.cells #[fv] 70)
  rw [World.size_alloc] at hB
  obtain ⟨cs, hcs⟩ : ∃ cs, fv.cells = cs := ⟨_, rfl⟩
  go_enter Try.func78, Try.ntmps78
  go_wp2
  go_ret
  exact ⟨_, rfl, rfl, hA, hB, hb⟩

set_option maxRecDepth 100000 in
set_option maxHeartbeats 4000000 in
theorem plansItR_in {h wd : Nat} (d6 : h ≤ 6) (e6 : wd ≤ 6) (q : List ByteArray → Bool) (Br : Nat) (Bf Bq f l : Nat) (hf : h * wd + 20 ≤ f) (J : List PZ → World → Prop) (W1 : World)
    (HQ : ∀ y ∈ allZ h wd, ∀ s w, J s w → Calls Try.prog 85 #[.agg (planZ h wd y.1 y.2), .pointer (some ⟨Br, 0, none⟩)] w fun e w' => e = .returned (.bool (q (txtZ h wd y.2))) ∧ Below w.heap.size w w')
    (hJ : ∀ s U W, J s U → Below W1.heap.size U W → J s W)
    (hJI : ∀ s W, J s W → HeldB W Bf 77 #[.int .i64 (h : Int), .int .i64 (wd : Int)] ∧ HeldB W Bq 70 #[.func (.func 85) #[] #[.pointer (some ⟨Br, 0, none⟩)]])
    (hY : ∀ m, 3 ≤ m → ∀ pre x rest W, asked q h wd (allZ h wd) = pre ++ x :: rest → W1.heap.size ≤ W.heap.size → J pre W → YieldAt Fence.wide m Try.prog l (encZ h wd x) W fun e W' => e = .returned (.bool true) ∧ J (pre ++ [x]) W' ∧ KeptFrom W1.heap.size W W')
    (h0 : J [] W1) :
    CallsIn Fence.wide f Try.prog 106 #[.func (.yield l) #[] #[], .pointer (some ⟨Bf, 0, none⟩), .pointer (some ⟨Bq, 0, none⟩)] W1 fun e W' => (∃ v, e = .returned v) ∧ J (asked q h wd (allZ h wd)) W' := by
  have hF : ∀ k, Fence.wide.fn k := fun _ => trivial
  have hn1 : 1 ≤ f := by omega
  have hHf := (hJI _ _ h0).1
  have hlf := hHf.lt
  have bF := hHf.alloc (.cells #[.func (.yield l) #[] #[]] 70)
  have c0 := bF.cell 0
  have c1 := bF.cell 1
  rw [show (#[.int .i64 (h : Int), .int .i64 (wd : Int)] : Array Value)[0]? = some (.int .i64 (h : Int)) from rfl] at c0
  rw [show (#[.int .i64 (h : Int), .int .i64 (wd : Int)] : Array Value)[1]? = some (.int .i64 (wd : Int)) from rfl] at c1
  have bY := HeldB.new W1 70 #[.func (.yield l) #[] #[]]
  have hb0 := below_alloc W1 (.cells #[.func (.yield l) #[] #[]] 70)
  have HJI := Lib.hid hJI; have HYY := Lib.hid hY; have HJJ := Lib.hid hJ; have HQQ := Lib.hid HQ; have HJ0 := Lib.hid h0
  clear hJI hY hJ HQ h0 hHf bF hlf
  refine callsIn_of_wp_marks Try.func106 rfl trivial ?_ rfl
  simp only [Try.ntmps106, List.size_toArray, List.length_cons, List.length_nil, Nat.reduceAdd, Nat.reduceSub, Array.replicate_succ, Array.replicate_zero, List.push_toArray, List.append_toArray, List.nil_append, List.cons_append]
  gi_wp2_with (first
    | (gi_at_call 32; refine (callsIn_wide.2 (allPlans_any h wd _ d6 e6)).mono ?_; rintro e W0 ⟨B, rfl, hBB, bN, hb1⟩))
  have hBB2 : B = W1.heap.size + 1 := by rw [hBB]; simp
  clear hBB c0 c1
  subst hBB2
  have bY := bY.below hb1
  have hlY := bY.lt
  have hB0 : Below W1.heap.size W1 W0 := below_step hb0 hb0.size hb1
  have hj0 := HJJ.out _ _ _ HJ0.out hB0
  have hs0 := hB0.size
  clear hb0 hb1
  generalize hXS : allZ h wd = xs at *
  have HXS := Lib.hid hXS; clear hXS
  refine rangeFunc_low rfl hn1 (gf := 66) (lb := #[.pointer (some ⟨W1.heap.size + 1, 0, none⟩)]) rfl trivial (enters_of Try.func66 (by kernel_rfl) rfl)
    (encs := encZ h wd) (fun _ => rfl) xs
    (fun pre W => J (asked q h wd pre) W ∧ HeldB W W1.heap.size 70 #[.func (.yield l) #[] #[]] ∧ W0.heap.size ≤ W.heap.size)
    (fun s U W h hb => ⟨HJJ.out _ _ _ h.1 (hb.mono hs0), (hb.block _ hlY).trans h.2.1, Nat.le_trans h.2.2 hb.size⟩)
    ⟨hj0, bY, Nat.le_refl _⟩
    (fun l' J' Wn hb hJ' hY' hj' => by
      rw [← HXS.out] at hY' ⊢
      exact allPlans_in d6 e6 _ (f - 1) (by omega) l' J' Wn (bN.below hb) hJ' hY' hj')
    (fun x a' W => ∃ G, W0.heap.size ≤ G ∧ HeldB W G 47 (planZ h wd x.1 x.2) ∧ a' = { tmps := #[Value.func (.yield l) #[] #[], Value.pointer (some ⟨Bf, 0, none⟩), Value.pointer (some ⟨Bq, 0, none⟩), Value.pointer (some ⟨W1.heap.size, 0, none⟩), Value.pointer (some ⟨G, 0, none⟩), Value.pointer (some ⟨Bf, 0, none⟩), Value.int .i64 h, Value.pointer (some ⟨Bf, 1, none⟩), Value.int .i64 wd, Value.func (.func 66) #[] #[.pointer (some ⟨W1.heap.size + 1, 0, none⟩)], Value.agg (planZ h wd x.1 x.2), undef, undef, undef, undef, undef, undef, undef, undef, undef], defers := [] })
    (fun x a' W l o h h1 h2 h3 => by
      obtain ⟨G, g1, g2, g3⟩ := h
      obtain ⟨r, hr⟩ := h3
      refine ⟨G, g1, (World.putObj_heap_other (fun e => ?_)).trans g2, g3⟩
      subst e
      rw [show W.heap[G]? = _ from g2] at hr
      cases hr)
    ?assign ?body ?done
  case assign =>
    rintro m hm l' pre x rest W K' hx ⟨hj, bY1, hgw⟩ hK
    have HSZP := Lib.hid (planZ_info h wd x.1 x.2)
    have HS0P := Lib.hid (show zeroC.size = (planZ h wd x.1 x.2).size by rw [planZ_size]; rfl)
    have HONP := Lib.hid (planZ_one h wd x.1 x.2)
    simp only [encZ]
    generalize planZ h wd x.1 x.2 = C at *
    rw [fold_one]
    simp only [List.setIfInBounds_toArray, List.set_cons_succ, List.set_cons_zero]
    gi_wp2_with (first
      | (refine wpListIn_alloc_zero rfl 47 rfl zeroC zero_plan ?_)
      | (refine wpListIn_store_new rfl 47 _ _ rfl W zeroC C rfl rfl rfl HSZP.out HS0P.out HONP.out ?_))
    exact hK _ _ (below_alloc _ _) ⟨W.heap.size, hgw, HeldB.new W _ _, rfl⟩
  case body =>
    rintro m hm l' pre x rest a' W hx ⟨hj, bY1, hgw⟩ ⟨G, hG, bX, rfl⟩
    have h1' : 1 ≤ m := by omega
    have hmem : x ∈ xs := by rw [hx]; simp
    have HQx := Lib.hid (fun w hj => HQQ.out x hmem (asked q h wd pre) w hj)
    have HSZP := Lib.hid (planZ_info h wd x.1 x.2)
    have bQ := (HJI.out _ _ hj).2
    have cQ := bQ.cell 0
    have HLX := Lib.hid bX.lt
    have hHX : W.heap[G]? = some (.cells (planZ h wd x.1 x.2) 47 (0, 0)) := bX
    have HJx := Lib.hid hj
    cases hq : q (txtZ h wd x.2)
    · have HNO := Lib.hid (asked_no pre hq)
      rw [hq] at HQx
      clear hq hj hmem bQ hx
      generalize planZ h wd x.1 x.2 = C at *
      gi_wp2_with (first
        | (refine wpListIn_load_row rfl 47 _ rfl G rfl 47 C (0, 0) _ hHX Try.underlying47 rfl HSZP.out ?_)
        | (gi_at_call 85; refine (CallsIn.inRound l' (callsIn_wide.2 (HQx.out _ HJx.out))).mono ?_; rintro e w2 ⟨rfl, hb2⟩))
      exact ⟨⟨by rw [HNO.out]; exact HJJ.out _ _ _ HJx.out (hb2.mono (by omega)), bY1.below hb2, Nat.le_trans hgw hb2.size⟩, KeptFrom.of_below hb2⟩
    · have HYES := Lib.hid (asked_yes pre hq)
      have HCUT := Lib.hid (asked_cut hx hq)
      have HYX := Lib.hid (fun W hb hj => HYY.out m hm (asked q h wd pre) x (asked q h wd rest) W HCUT.out hb hj)
      unfold encZ at HYX
      rw [hq] at HQx
      clear hq hj hmem bQ hx
      generalize planZ h wd x.1 x.2 = C at *
      gi_wp2_with (first
        | (refine wpListIn_load_row rfl 47 _ rfl G rfl 47 C (0, 0) _ hHX Try.underlying47 rfl HSZP.out ?_))
      refine (CallsIn.inRound l' (callsIn_wide.2 (HQx.out _ HJx.out))).mono ?_
      rintro e w2 ⟨rfl, hb2⟩
      have cY := (bY1.below hb2).cell 0
      have hHX2 := (hb2.block G HLX.out).trans hHX
      obtain ⟨fy, ty, ay, by', hy, hR⟩ := YieldAt.deep rfl (m - 1) (HYX.out w2 (Nat.le_trans hs0 (Nat.le_trans hgw hb2.size)) (HJJ.out _ _ _ HJx.out (hb2.mono (Nat.le_trans hs0 hgw))))
      gi_wp2_with (first
        | (refine wpListIn_load_rowG (by rfl) 47 _ rfl G rfl 47 C (0, 0) _ hHX2 Try.underlying47 rfl HSZP.out ?_))
      have hR' : RoundIn (Fence.wide.inRound l') (m - 1) Try.prog l fy ty ay by' w2 _ := hR
      refine hR'.mono ?_
      rintro e w3 ⟨rfl, hj3, hk3⟩
      clear hR hR' hy
      have bY2 := bY1.below hb2
      have bY3 := (hk3.2 _ (Nat.le_refl _) bY2.lt).trans bY2
      gi_wp2
      exact ⟨⟨by rw [HYES.out]; exact hj3, bY3, Nat.le_trans hgw (Nat.le_trans hb2.size hk3.1)⟩, (KeptFrom.of_below hb2).trans (hk3.mono hs0)⟩
  case done =>
    rintro D W hD ⟨hj, bY1, hgw⟩ hK
    gi_wp2
    refine ⟨by simp, .inl ⟨_, _, rfl, run_takeDeferred hK, ?_⟩⟩
    refine ⟨.tuple #[], ?_, ⟨⟨_, rfl⟩, by rw [HXS.out]; exact HJJ.out _ _ _ hj (belowK_b (w := W1) (Nat.le_refl _) W D _ _ (by omega) hK rfl rfl)⟩⟩
    simp [results, Try.f106, go_sem]
end Go.Proofs.Ytpgcpmfemcfoaaa

/-
  Maps that count things of any kind. (Memory.)
-/
namespace Go.Proofs.Ytpgcpmfemcfoaaa
open Go.RowKit
open Go.Maps (Keyed)

/-- what is told of the keys of a map that counts -/
structure KeySp {α : Type} (K M : TypeId) (enc : α → Value) (lit : α → Lit) (dom : α → Prop) : Prop where
  keyed : Keyed Try.prog K
  und : Try.prog.underlying M = some (.map K 3)
  key : ∀ x, dom x → keyOf Try.prog K (enc x) = some (lit x)
  enc_inj : ∀ x y, dom x → dom y → enc x = enc y → x = y
theorem KeySp.inj {α : Type} {K M : TypeId} {enc : α → Value} {lit : α → Lit} {dom : α → Prop} (S : KeySp K M enc lit dom) {x y : α} (hx : dom x) (hy : dom y) (h : lit x = lit y) : x = y :=
  S.enc_inj x y hx hy (S.keyed.inj (S.key x hx) (h ▸ S.key y hy))
theorem KeySp.isKey {α : Type} {K M : TypeId} {enc : α → Value} {lit : α → Lit} {dom : α → Prop} (S : KeySp K M enc lit dom) {x : α} (hx : dom x) : WideAt.IsKeyLit (lit x) := S.keyed.key (S.key x hx)
theorem zero_intT (w : World) : (zeroValue 3).run Try.prog w = .ok (.int .i64 0) w := by kernel_rfl
theorem int_wfT {n : Nat} (h : n < 2000000) : (Lit.int .i64 (n : Int)).wf = true := by
  show (decide (IntKind.i64.min ≤ (n : Int)) && decide ((n : Int) ≤ IntKind.i64.max)) = true
  have h1 : IntKind.i64.min = -9223372036854775808 := by decide +kernel
  have h2 : IntKind.i64.max = 9223372036854775807 := by decide +kernel
  rw [h1, h2, decide_eq_true (by omega), decide_eq_true (by omega)]
  rfl

section
variable {α : Type} [DecidableEq α] {K M : TypeId} {enc : α → Value} {lit : α → Lit} {dom : α → Prop}
def CountsG (lit : α → Lit) (dom : α → Prop) (D : DataW Unit) (L : List α) : Prop :=
  (∀ x, dom x → D.atKey (lit x) (.lit (.int .i64 0)) = .lit (.int .i64 (L.count x : Nat))) ∧ ∀ kl, Maps.has D kl = true ↔ ∃ x ∈ L, kl = lit x
def CntG (K : TypeId) (lit : α → Lit) (dom : α → Prop) (w : World) (b : Nat) (L : List α) : Prop :=
  (∀ x ∈ L, dom x) ∧ ∃ D, w.ownsMap (H := Unit) Try.prog K (plainElem Try.prog 3) b L.length D ∧ CountsG lit dom D L ∧ Maps.Tidy D ∧ Maps.size D = (firsts L).length
theorem countsG_nil : CountsG lit dom (.map []) [] := ⟨fun x _ => by simp [DataW.atKey], fun kl => by simp [Maps.has]⟩
theorem CntG.made (w : World) : CntG K lit dom (w.alloc (.map #[] 0)) w.heap.size [] :=
  ⟨fun _ h => (by cases h), _, World.ownsMap_made w _ _ _, countsG_nil, Maps.tidy_empty, rfl⟩
theorem CntG.kept {w w' : World} {b : Nat} {L : List α} {row : Option Nat} (h : CntG K lit dom w b L) (hg : w.grownBy w' row) (hne : some b ≠ row) : CntG K lit dom w' b L := by
  obtain ⟨h1, D, h2, h3, h4, h5⟩ := h
  exact ⟨h1, D, h2.kept hg hne, h3, h4, h5⟩
theorem CntG.same {w w' : World} {b : Nat} {L : List α} (h : CntG K lit dom w b L) (he : w'.heap[b]? = w.heap[b]?) : CntG K lit dom w' b L := by
  obtain ⟨h1, D, ⟨es, clock, hb, F, hs, hD⟩, h3, h4, h5⟩ := h
  exact ⟨h1, D, ⟨es, clock, he.trans hb, F, hs, hD⟩, h3, h4, h5⟩
theorem CntG.below {w w' : World} {b : Nat} {L : List α} (h : CntG K lit dom w b L) (hb : Below w.heap.size w w') : CntG K lit dom w' b L :=
  h.kept (grownBy_of_below hb none) (by simp)
theorem CntG.lt {w : World} {b : Nat} {L : List α} (h : CntG K lit dom w b L) : b < w.heap.size := by
  obtain ⟨_, D, h2, _⟩ := h
  exact h2.lt
theorem CntG.block {w : World} {b : Nat} {L : List α} (h : CntG K lit dom w b L) : ∃ es clock, w.heap[b]? = some (.map es clock) := by
  obtain ⟨_, D, ⟨es, clock, hb, _⟩, _⟩ := h
  exact ⟨es, clock, hb⟩
theorem CountsG.put (S : KeySp K M enc lit dom) {D : DataW Unit} {L : List α} (h : CountsG lit dom D L) (_hL : ∀ x ∈ L, dom x) (hm : Maps.IsMap D) {x : α} (hx : dom x) : CountsG lit dom (D.put (lit x) (.lit (.int .i64 ((L.count x + 1 : Nat) : Int)))) (L ++ [x]) := by
  refine ⟨fun y hy => ?_, fun kl => ?_⟩
  · by_cases he : y = x
    · subst he
      rw [Maps.atKey_put_same hm (S.isKey hx), List.count_append]
      simp
    · rw [Maps.atKey_put_other (fun e => he (S.inj hy hx e)), h.1 y hy, List.count_append]
      have : ¬ x = y := fun e => he e.symm
      simp [this]
  · by_cases he : kl = lit x
    · subst he
      rw [Maps.has_put_same hm (S.isKey hx)]
      simp only [true_iff]
      exact ⟨x, by simp, rfl⟩
    · rw [Maps.has_put_other he, h.2 kl]
      constructor
      · rintro ⟨y, hy, rfl⟩; exact ⟨y, List.mem_append_left _ hy, rfl⟩
      · rintro ⟨y, hy, rfl⟩
        rw [List.mem_append, List.mem_singleton] at hy
        rcases hy with hy | rfl
        · exact ⟨y, hy, rfl⟩
        · exact absurd rfl he
theorem firsts_len_snoc (L : List α) (x : α) : (firsts (L ++ [x])).length = if x ∈ L then (firsts L).length else (firsts L).length + 1 := by
  rw [firsts_snoc]
  by_cases h : x ∈ L
  · rw [if_pos (by rw [mem_firsts]; exact h), if_pos h]
  · rw [if_neg (fun e => h (by rw [mem_firsts] at e; exact e)), if_neg h, List.length_append]; rfl
theorem size_putG (S : KeySp K M enc lit dom) {D : DataW Unit} {L : List α} (h : CountsG lit dom D L) (hL : ∀ x ∈ L, dom x) (ht : Maps.Tidy D) (hs : Maps.size D = (firsts L).length) {x : α} (hx : dom x) (d : DataW Unit) : Maps.size (D.put (lit x) d) = (firsts (L ++ [x])).length := by
  rw [Maps.size_put ht, firsts_len_snoc, hs]
  by_cases h1 : x ∈ L
  · rw [if_pos h1, if_pos ((h.2 _).2 ⟨x, h1, rfl⟩)]
  · rw [if_neg h1, if_neg]
    intro e
    obtain ⟨y, hy, e2⟩ := (h.2 _).1 e
    exact h1 (S.inj hx (hL y hy) e2 ▸ hy)
/-- a lookup tells how often -/
theorem CntG.look (S : KeySp K M enc lit dom) {w : World} {b : Nat} {L : List α} (h : CntG K lit dom w b L) {x : α} (hx : dom x) :
    (Instr.lookup M (.map (some b)) (enc x) false).run Try.prog w = .ok (.int .i64 (L.count x : Nat)) w := by
  obtain ⟨hM, D, hown, hcnt, _⟩ := h
  obtain ⟨c, hrun, hat, _⟩ := hown.lookup_int S.keyed S.und Try.underlying3 (zero_intT w) (S.key x hx)
  rw [hcnt.1 x hx] at hat
  simp only [DataW.lit.injEq, Lit.int.injEq, true_and] at hat
  rw [hat]; exact hrun
/-- one more of a kind, by an entry and a store -/
theorem CntG.inc (S : KeySp K M enc lit dom) (law : WideMaps.KeyLaw Try.prog K) {w : World} {b : Nat} {L : List α} (h : CntG K lit dom w b L) {x : α} (hx : dom x) (hl : L.length < 1000001) :
    ∃ (v0 : Value) (st : Nat) (w1 : World), (Instr.mapEntry M (.map (some b)) (enc x)).run Try.prog w = .ok (.tuple #[v0, goInt st]) w1 ∧ w.grownBy w1 (some b) ∧
      (Instr.lookup M (.map (some b)) (enc x) false).run Try.prog w1 = .ok (.int .i64 (L.count x : Nat)) w1 ∧
      ∃ w2, (Instr.entryStore M (.map (some b)) (goInt st) (.int .i64 ((L.count x + 1 : Nat) : Int))).run Try.prog w1 = .ok () w2 ∧ CntG K lit dom w2 b (L ++ [x]) ∧ w1.grownBy w2 (some b) := by
  obtain ⟨hM, D, hown, hcnt, htd, hsz⟩ := h
  have hkey := S.key x hx
  have hcl : L.count x < 1000001 := Nat.lt_of_le_of_lt List.count_le_length hl
  have hlook : ∀ (W : World) (n : Nat) (D' : DataW Unit), W.ownsMap (H := Unit) Try.prog K (plainElem Try.prog 3) b n D' → D'.atKey (lit x) (.lit (.int .i64 0)) = .lit (.int .i64 (L.count x : Nat)) →
      (Instr.lookup M (.map (some b)) (enc x) false).run Try.prog W = .ok (.int .i64 (L.count x : Nat)) W := fun W n D' hO hA => by
    obtain ⟨c, hrun, hat, _⟩ := hO.lookup_int S.keyed S.und Try.underlying3 (zero_intT W) hkey
    rw [hA] at hat
    simp only [DataW.lit.injEq, Lit.int.injEq, true_and] at hat
    rw [hat]; exact hrun
  have hown' := hown
  obtain ⟨es, clock, hb, F, hs, hD⟩ := hown'
  obtain ⟨v0, st, es1, clock1, hE, _, hS⟩ := WideElems.entry_then_store law S.und zero_intT hb F hkey
  have hset := ChangeMaps.heap_setBlock_same hb (.map es1 clock1)
  obtain ⟨es', clock', hst, hup⟩ := hS (ChangeMaps.setBlock w b (.map es1 clock1)) (.int .i64 ((L.count x + 1 : Nat) : Int)) hset
  have hg : ∀ (o : Obj), w.grownBy (ChangeMaps.setBlock w b o) (some b) := fun o => ⟨rfl, rfl, rfl, by simp [ChangeMaps.setBlock], fun i _ hi => ChangeMaps.heap_setBlock_other hb _ (fun e => hi (by rw [e]))⟩
  have htw : ∀ (o o' : Obj), ChangeMaps.setBlock (ChangeMaps.setBlock w b o) b o' = ChangeMaps.setBlock w b o' := fun o o' => by
    unfold ChangeMaps.setBlock
    simp [Array.setIfInBounds_setIfInBounds]
  refine ⟨v0, st, _, hE, hg _, ?_, _, hst, ?_, ?_⟩
  · rcases S.keyed.find w hkey es.toList F.keys with ⟨h1, h2⟩ | ⟨j, e0, h1, h2, h3⟩
    · have hE2 : (Instr.mapEntry M (.map (some b)) (enc x)).run Try.prog w = .ok (.tuple #[.int .i64 0, goInt clock]) (ChangeMaps.setBlock w b (.map (es.push ⟨enc x, .int .i64 0, clock⟩) (clock + 1))) := by
        simp [Instr.mapEntry, run_underlying S.und, MapKept.run_getObj_map hb, S.keyed.check w false hkey, h1, MapKept.run_setObj_map _ hb, Result.andThen, ChangeMaps.setBlock]
      obtain ⟨w', hup2, hown2, _⟩ := hown.update S.keyed S.und (d := .lit (.int .i64 0)) (val := .int .i64 0) (ps := []) (by unfold maxLen; omega) hkey (plainElem_int Try.underlying3 (int_wfT (n := 0) (by omega)))
      have hup3 : (Instr.mapUpdate M (.map (some b)) (enc x) (.int .i64 0)).run Try.prog w = .ok () (ChangeMaps.setBlock w b (.map (es.push ⟨enc x, .int .i64 0, clock⟩) (clock + 1))) := by
        simp [Instr.mapUpdate, run_underlying S.und, MapKept.run_getObj_map hb, S.keyed.check w false hkey, h1, MapKept.run_setObj_map _ hb, Result.andThen, ChangeMaps.setBlock]
      rw [hE] at hE2
      rw [hup3] at hup2
      simp only [Result.ok.injEq, true_and] at hE2 hup2
      rw [hE2.2]
      subst hup2
      refine hlook _ _ _ hown2 ?_
      have hm : Maps.IsMap D := ⟨_, hD⟩
      rw [Maps.atKey_put_same hm (S.isKey hx)]
      have h0 : Maps.has D (lit x) = false := by
        cases hh : Maps.has D (lit x)
        · rfl
        · exfalso
          rw [hD] at hh
          obtain ⟨p, hp, hpk⟩ := List.any_eq_true.1 hh
          obtain ⟨y, hy, rfl⟩ := List.mem_map.1 (mem_sorted.1 hp)
          obtain ⟨z, hz⟩ := F.reads y hy
          rw [WideElems.rg_of hz] at hpk
          have hk2 := WideElems.rd_key hz
          rw [WideAt.sameKey_eq hpk] at hk2
          exact h2 y hy (S.keyed.inj hk2 hkey)
      have := hcnt.1 x hx
      rw [Maps.atKey_of_not_has h0] at this
      exact this
    · have hE2 : (Instr.mapEntry M (.map (some b)) (enc x)).run Try.prog w = .ok (.tuple #[v0, goInt st]) (ChangeMaps.setBlock w b (.map es1 clock1)) := hE
      have hj : es[j]? = some e0 := by simpa using h2
      have hsame : es.modify j (fun e => { e with key := enc x }) = es := by
        apply Array.ext'
        rw [Array.toList_modify, ChangeMaps.modify_eq_set _ _ _ _ h2]
        have : ({ e0 with key := enc x } : MapEntry) = e0 := by rw [← h3]
        rw [this]
        exact WideElems.set_self _ _ _ h2
      simp [Instr.mapEntry, run_underlying S.und, MapKept.run_getObj_map hb, S.keyed.check w false hkey, h1, hj, h3, S.keyed.stays w hkey, hsame, MapKept.run_setObj_map _ hb, Result.andThen] at hE2
      refine hlook _ L.length D ?_ (hcnt.1 x hx)
      rw [← hE2.2]
      exact ⟨es, clock, (MapKept.heap_set hb).1, F, hs, hD⟩
  · obtain ⟨w', hup2, hown2, _⟩ := hown.update S.keyed S.und (d := .lit (.int .i64 ((L.count x + 1 : Nat) : Int))) (val := .int .i64 ((L.count x + 1 : Nat) : Int)) (ps := []) (by unfold maxLen; omega) hkey (plainElem_int Try.underlying3 (int_wfT (by omega)))
    rw [hup] at hup2
    simp only [Result.ok.injEq, true_and] at hup2
    rw [htw, hup2]
    refine ⟨fun y hy => ?_, _, by rw [List.length_append]; exact hown2, hcnt.put S hM ⟨_, hD⟩ hx, htd.put (S.isKey hx) _, size_putG S hcnt hM htd hsz hx _⟩
    rw [List.mem_append, List.mem_singleton] at hy
    rcases hy with hy | rfl
    · exact hM y hy
    · exact hx
  · rw [htw]
    exact ⟨rfl, rfl, rfl, by simp [ChangeMaps.setBlock], fun i _ hi => by rw [ChangeMaps.heap_setBlock_other hb _ (fun e => hi (by rw [e])), ChangeMaps.heap_setBlock_other hb _ (fun e => hi (by rw [e]))]⟩
/-- a map cleared -/
theorem CntG.clear_run (S : KeySp K M enc lit dom) {w : World} {b : Nat} {L : List α} (h : CntG K lit dom w b L) (ty : TypeId) :
    ∃ w', (Builtin.clear_ #[M] ty #[.map (some b)]).run Try.prog w = .ok (.tuple #[]) w' ∧ CntG K lit dom w' b [] ∧ w.grownBy w' (some b) ∧ w'.heap.size = w.heap.size := by
  obtain ⟨_, D, ⟨es, clock, hb, F, hs, _⟩, _⟩ := h
  have hr : (Builtin.clear_ #[M] ty #[.map (some b)]).run Try.prog w = .ok (.tuple #[]) (ChangeMaps.setBlock w b (.map #[] clock)) := by
    simp [Builtin.clear_, run_underlying S.und, MapKept.run_getObj_map hb, MapKept.run_setObj_map _ hb, Result.andThen, ChangeMaps.setBlock]
  have hset := ChangeMaps.heap_setBlock_same hb (.map #[] clock)
  exact ⟨_, hr, ⟨fun _ h => (by cases h), .map [], ⟨#[], clock, hset, ⟨by simp, MapKept.stamped_empty clock, by simp⟩, Nat.le_refl _, rfl⟩, countsG_nil, Maps.tidy_empty, rfl⟩, ⟨rfl, rfl, rfl, by simp [ChangeMaps.setBlock], fun i _ hi => ChangeMaps.heap_setBlock_other hb _ (fun e => hi (by rw [e]))⟩, by simp [ChangeMaps.setBlock]⟩
end
end Go.Proofs.Ytpgcpmfemcfoaaa

/-
  Plans are counted by what is told of them. (Walks inside a fence.)
-/
namespace Go.Proofs.Ytpgcpmfemcfoaaa
open Go.RowKit Go.Shelf

attribute [local go_sem] Oper.semAt_some

/-- an iterator over plans that tells each one of a list, where something of memory stays -/
def SeqLow (f gf : Nat) (lb : Array Value) (h wd : Nat) (xs : List PZ) (St : World → Prop) : Prop :=
  ∀ (l : Nat) (J : List PZ → World → Prop) (W1 : World), (∀ s U W, J s U → Below W1.heap.size U W → J s W) → (∀ s W, J s W → St W) →
    (∀ (m : Nat), 3 ≤ m → ∀ pre x rest W, xs = pre ++ x :: rest → W1.heap.size ≤ W.heap.size → J pre W → YieldAt Fence.wide m Try.prog l (encZ h wd x) W fun e W' => e = .returned (.bool true) ∧ J (pre ++ [x]) W' ∧ KeptFrom W1.heap.size W W') →
    J [] W1 → CallsIn Fence.wide f Try.prog gf (#[.func (.yield l) #[] #[]] ++ lb) W1 fun e W' => (∃ v, e = .returned v) ∧ J xs W'
/-- what stays where cells are not touched, and what lies below a bound is not -/
def Stays (B0 : Nat) (St : World → Prop) : Prop :=
  (∀ U W row, St U → U.grownBy W row → (∀ g, row = some g → ∃ es c, U.heap[g]? = some (.map es c)) → St W) ∧ ∀ U W B, B0 ≤ B → St U → Below B U W → St W
theorem heldB_stays {B0 B : Nat} (hB : B < B0) (t : TypeId) (C : Array Value) : Stays B0 (fun W => HeldB W B t C) := by
  refine ⟨fun U W row hs hg hm => HeldB.kept hs hg (fun e => ?_), fun U W B1 h1 hs hb => (hb.block B (by omega)).trans hs⟩
  obtain ⟨es, c, h⟩ := hm B e.symm
  rw [show U.heap[B]? = _ from hs] at h
  cases h
theorem Stays.and {B0 : Nat} {A B : World → Prop} (ha : Stays B0 A) (hb : Stays B0 B) : Stays B0 (fun W => A W ∧ B W) := ⟨fun U W row hs hg hm => ⟨ha.1 U W row hs.1 hg hm, hb.1 U W row hs.2 hg hm⟩, fun U W B1 h1 hs h => ⟨ha.2 U W B1 h1 hs.1 h, hb.2 U W B1 h1 hs.2 h⟩⟩
theorem grownBy_low {w U W : World} {B : Nat} {row : Option Nat} (h : w.grownBy U row) (hb : Below B U W) (hB : w.heap.size ≤ B) : w.grownBy W row :=
  ⟨hb.os.trans h.os, hb.tape.trans h.tape, hb.output.trans h.output, Nat.le_trans h.size hb.size, fun j hj hne => (hb.block j (by omega)).trans (h.block j hj hne)⟩
theorem KeptFrom.of_grown {B b : Nat} {U W : World} (h : U.grownBy W (some b)) (hb : b < B) : KeptFrom B U W := ⟨h.size, fun j hj hl => h.block j hl (fun e => by simp only [Option.some.injEq] at e; omega)⟩

end Go.Proofs.Ytpgcpmfemcfoaaa
