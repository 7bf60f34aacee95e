
/-
  slices.Insert of one link into links: what lies there behind it. (Walks.)
-/
import Derived.Test.YtjcbfijliacicaaChamM
import Derived.Lib.Overlaps
import Derived.Lib.AppendZerosOnto
import Derived.Lib.AppendZeros
import Derived.Laws.Externs
import Derived.Laws.IdiomCopy
import Derived.Laws.NewBlocks
import Derived.Shelf.RegionOpenPlain
namespace Go.Proofs.Ytjcbfijliacicaa
open Go.RowKit

theorem run_copyK {P : Program} (w : World) (dT sT ty elem : TypeId) (size g o dLen dCap m : Nat) (a : Addr) (sLen sCap : Nat) (cur : Array Value) (t : TypeId) (cs : List Value)
    (hu : P.underlying dT = some (.slice elem)) (hs : (P.info? elem).map (·.size) = some size)
    (hg : w.heap[g]? = some (.cells cur t (0, 0))) (hm : m = Nat.min sLen dLen) (hn : cs.length = m * size)
    (hsrc : ∀ j v, cs[j]? = some v → w.cell? (a.add j) = some v) (hfit : o + cs.length ≤ cur.size) (h1 : ∀ v ∈ cs, v.oneCell' = true) :
    (Builtin.copy_ #[dT, sT] ty #[.slice (some ⟨g, o, none⟩) dLen dCap, .slice (some a) sLen sCap]).run P w =
      .ok (goInt m) (w.setRow g (cur.toList.take o ++ cs ++ cur.toList.drop (o + cs.length)).toArray) := by
  have hl := run_loadCells_list (P := P) w a cs hsrc
  have hst := run_storeCells_at P g o t cs 0 cur w hg (by simpa using hfit) h1
  cases hq : P.info? elem with
  | none => simp [hq] at hs
  | some i =>
    have hi : i.size = size := by simpa [hq] using hs
    simp [Builtin.copy_, run_underlying hu, Builtin.lenOf, Builtin.firstCells, sizeOf, typeInfo, hq, hi, ← hn, ← hm, hl, hst]

theorem wpList_copyK {P : Program} (w : World) {ops : Array Oper} {rest : List Oper} {o : Oper} {a : Act} {Q : Exit → Act → World → Prop} (hgd : o.guard = none) (d s : Operand) (t t' : TypeId)
    (ho : o.op = .call { callee := .builtin .copy, args := #[d, s], argTypes := #[t, t'] }) (v u : Value) (hd : a.eval d = v) (hs : a.eval s = u) {v' : Value} {w' : World}
    (hr : (Builtin.copy_ #[t, t'] o.type #[v, u]).run P w = .ok v' w') (h : wpList P ops Q rest (a.put o.dst v') w') : wpList P ops Q (o :: rest) a w := by
  refine wpList_plain hgd fun K hK' => ?_
  unfold Oper.wp execOp
  simp only [ho, resolve, invoke, builtin, Sem.run_bind, Sem.run_pure, Result.andThen_ok, List.map_toArray, List.map_cons, List.map_nil, hd, hs, hr]
  exact hK' _ _ h
/-- .. and as one step of a region that draws (for 'go_region_law_o'). -/
theorem step_copyK {P : Program} {ops : Array Oper} {o : Oper} {a : Act} {w : World} {K : Act → World → Prop} {Q : Exit → Act → World → Prop} {E : Prop}
    (hg : o.guard = none) (d x : Operand) (dT sT : TypeId) (hop : o.op = Op.call { callee := Callee.builtin Builtin.copy, args := #[d, x], argTypes := #[dT, sT] })
    (v u : Value) (hd : a.eval d = v) (hx : a.eval x = u) {v' : Value} {w' : World} (hr : (Builtin.copy_ #[dT, sT] o.type #[v, u]).run P w = .ok v' w') (hK : K (a.put o.dst v') w') :
    if Region.wanted o (yielded ops a.tmps) = true then Oper.wp P o a w K Q else E := by
  have hw : Region.wanted o (yielded ops a.tmps) = true := by simp [Region.wanted, hg]
  rw [if_pos hw]
  unfold Oper.wp
  simp [execOp, hop, resolve, invoke, builtin, hd, hx, hr, Result.andThen]
  exact hK

theorem wpList_append_run' {P : Program} (w : World) {ops : Array Oper} {rest : List Oper} {o : Oper} {a : Act} {Q : Exit → Act → World → Prop} (hgd : o.guard = none) (s x : Operand) (t t' : TypeId)
    (ho : o.op = .call { callee := .builtin .append, args := #[s, x], argTypes := #[t, t'] }) (v u : Value) (hs : a.eval s = v) (hx : a.eval x = u) {v' : Value} {w' : World}
    (hr : (Builtin.append_ #[t, t'] o.type #[v, u]).run P w = .ok v' w') (h : wpList P ops Q rest (a.put o.dst v') w') : wpList P ops Q (o :: rest) a w := by
  refine wpList_plain hgd fun K hK' => ?_
  unfold Oper.wp execOp
  simp only [ho, resolve, invoke, builtin, Sem.run_bind, Sem.run_pure, Result.andThen_ok, List.map_toArray, List.map_cons, List.map_nil, hs, hx, hr]
  exact hK' _ _ h

/-- two copies into a row: what lies in it then -/
theorem two_copies {cur xs us : List Value} {i n : Nat} (hi : i < n) (hx : xs.length = n * 2) (hu : us.length = 2) (hc : (n + 1) * 2 ≤ cur.length) (ht : cur.take (i * 2) = xs.take (i * 2))
    {c1 c2 : List Value} (h1 : c1 = cur.take ((i + 1) * 2) ++ xs.drop (i * 2) ++ cur.drop ((i + 1) * 2 + (xs.drop (i * 2)).length)) (h2 : c2 = c1.take (i * 2) ++ us ++ c1.drop (i * 2 + us.length)) :
    c1.length = cur.length ∧ c2.length = cur.length ∧ c2.take ((n + 1) * 2) = xs.take (i * 2) ++ us ++ xs.drop (i * 2) := by
  have hd : (xs.drop (i * 2)).length = (n - i) * 2 := by rw [List.length_drop, hx]; omega
  have l1 : c1.length = cur.length := by
    rw [h1, List.length_append, List.length_append, List.length_take, hd, List.length_drop]; omega
  have e1 : c1.take (i * 2) = xs.take (i * 2) := by
    rw [h1, List.append_assoc, List.take_append_of_le_length (by rw [List.length_take]; omega), List.take_take, show min (i * 2) ((i + 1) * 2) = i * 2 from by omega, ht]
  have e2 : c1.drop (i * 2 + us.length) = xs.drop (i * 2) ++ cur.drop ((i + 1) * 2 + (xs.drop (i * 2)).length) := by
    rw [h1, List.append_assoc, hu, show i * 2 + 2 = (cur.take ((i + 1) * 2)).length from by rw [List.length_take]; omega, List.drop_left]
  have l2 : c2.length = cur.length := by
    rw [h2, List.length_append, List.length_append, e1, e2, List.length_append, List.length_take, hd, List.length_drop]; omega
  refine ⟨l1, l2, ?_⟩
  rw [h2, e1, e2, ← List.append_assoc, List.take_left']
  rw [List.length_append, List.length_append, List.length_take, hd]; omega
/-- .. the other way round -/
theorem two_copies' {cur xs us : List Value} {i n : Nat} (hi : i < n) (hx : xs.length = n * 2) (hu : us.length = 2) (hc : (n + 1) * 2 ≤ cur.length) (ht : cur.take (i * 2) = xs.take (i * 2))
    {c1 c2 : List Value} (h1 : c1 = cur.take (i * 2) ++ us ++ cur.drop (i * 2 + us.length)) (h2 : c2 = c1.take ((i + 1) * 2) ++ xs.drop (i * 2) ++ c1.drop ((i + 1) * 2 + (xs.drop (i * 2)).length)) :
    c1.length = cur.length ∧ c2.length = cur.length ∧ c2.take ((n + 1) * 2) = xs.take (i * 2) ++ us ++ xs.drop (i * 2) := by
  have hd : (xs.drop (i * 2)).length = (n - i) * 2 := by rw [List.length_drop, hx]; omega
  have l1 : c1.length = cur.length := by
    rw [h1, List.length_append, List.length_append, List.length_take, List.length_drop]; omega
  have e1 : c1.take ((i + 1) * 2) = xs.take (i * 2) ++ us := by
    rw [h1, ht, List.take_left']
    rw [List.length_append, List.length_take]; omega
  have l2 : c2.length = cur.length := by
    rw [h2, List.length_append, List.length_append, List.length_take, hd, List.length_drop]; omega
  refine ⟨l1, l2, ?_⟩
  rw [h2, e1, List.take_left']
  rw [List.length_append, List.length_append, List.length_take, hd]; omega

theorem Try.infoLnk : (Try.prog.info? 92).map (fun i => (i.zero, i.size, i.bytes)) = some (some (.agg #[.pointer none, .int .i64 0]), 2, 16) := by kernel_rfl
theorem Try.sizeLnk : (Try.prog.info? 92).map (·.size) = some 2 := by kernel_rfl

def InsRet (base : Nat) (w : World) (ao : Option Addr) (n cap : Nat) (ys : List Value) (e : Ending) (w' : World) : Prop :=
  ∃ ao' cap', e = .returned (.slice ao' (n + 1) cap') ∧ w'.ownsRow base 92 2 (.slice ao' (n + 1) cap') (n + 1) ys ∧ w.grownBy w' (Value.ownBlock (.slice ao n cap)) ∧ NewOr w ao ao'

set_option maxRecDepth 100000 in
set_option maxHeartbeats 4000000 in
/-- at the end -/
theorem insert_end (base : Nat) (ao : Option Addr) (n cap : Nat) (xs us : List Value) (vb vc : Nat) (w : World) (hn : n ≤ 1000) (hb : base ≤ w.heap.size) (hown : w.ownsRow base 92 2 (.slice ao n cap) n xs)
    (hul : us.length = 2) (hu1 : ∀ v ∈ us, v.oneCell' = true) (hu : ∀ j v, us[j]? = some v → w.cell? ⟨vb, 0 + j, none⟩ = some v) :
    Calls Try.prog 107 #[.slice ao n cap, .int .i64 n, .slice (some ⟨vb, 0, none⟩) 1 vc] w (InsRet base w ao n cap (xs ++ us)) := by
  obtain ⟨im, hmi, hmz, hm1, hm2⟩ := info_parts Try.infoLnk
  have h63 : n + 1 ≤ maxLen := by unfold maxLen; omega
  have h64 : (n + 1) * 16 ≤ 140737488355328 := by omega
  have HO := Lib.hid hown
  have HU := Lib.hid hu
  have HU1 := Lib.hid hu1
  have HUL := Lib.hid hul
  have hnc : n ≤ cap ∧ (ao = none → n = 0) := by
    rcases hown.2 with ⟨h1, h2⟩ | ⟨g, c, cur, h1, _, _, h2, _⟩
    · simp only [Value.slice.injEq] at h1; omega
    · simp only [Value.slice.injEq] at h1
      obtain ⟨rfl, _, rfl⟩ := h1
      exact ⟨h2, fun h => by cases h⟩
  obtain ⟨hnc1, hnc2⟩ := hnc
  clear hown hu hu1 hul
  cases ao with
  | none =>
    obtain rfl := hnc2 rfl
    go_enter Try.func107, Try.ntmps107
    go_wp2_with (at_builtin; refine wpList_pushK _ rfl _ _ 88 rfl base 92 im _ 2 16 Try.underlying88 hmi hmz hm1 hm2 rfl (by decide) none 0 cap _ rfl HO.out us 1 vb 0 vc rfl (by decide) HUL.out HU.out HU1.out h63 h64 hb ?_; intro ao2 cap2 w2 hown2 hg2 hnew2)
    go_ret
    exact ⟨ao2, cap2, rfl, hown2, hg2, hnew2⟩
  | some a =>
    obtain ⟨g, off, spn⟩ := a
    have hsh : off = 0 ∧ spn = none := by
      rcases HO.out.2 with ⟨h1, _⟩ | ⟨g', c', cur', h1, _⟩
      · simp at h1
      · simp only [Value.slice.injEq, Option.some.injEq, Addr.mk.injEq] at h1; exact ⟨h1.1.2.1, h1.1.2.2⟩
    obtain ⟨rfl, rfl⟩ := hsh
    clear hnc2
    go_enter Try.func107, Try.ntmps107
    go_wp2_with (at_builtin; refine wpList_pushK _ rfl _ _ 88 rfl base 92 im _ 2 16 Try.underlying88 hmi hmz hm1 hm2 rfl (by decide) (some ⟨g, 0, none⟩) n cap _ rfl HO.out us 1 vb 0 vc rfl (by decide) HUL.out HU.out HU1.out h63 h64 hb ?_; intro ao2 cap2 w2 hown2 hg2 hnew2)
    all_goals (go_ret; exact ⟨ao2, cap2, rfl, hown2, hg2, hnew2⟩)

theorem add_lit0 (b off j : Nat) : (⟨b, off, none⟩ : Addr).add j = ⟨b, off + j, none⟩ := Addr.add_lit b off j

set_option maxRecDepth 100000 in
set_option maxHeartbeats 4000000 in
/-- in the middle, where there is room: in place -/
theorem insert_shift (base : Nat) (b n cap i : Nat) (xs us : List Value) (cur : Array Value) (vb vc : Nat) (w : World) (tA : TypeId) (kA : Nat) (hn : n ≤ 1000) (hi : i < n) (hbb : base ≤ b) (hheap : w.heap[b]? = some (.cells cur 92 (0, 0)))
    (hroom : n + 1 ≤ cap) (hcm : cap ≤ maxLen) (hcs : cur.size = cap * 2) (htake : cur.toList.take (n * 2) = xs) (hx1 : ∀ v ∈ xs, v.oneCell' = true) (hvb : vb ≠ b)
    (hul : us.length = 2) (hu1 : ∀ v ∈ us, v.oneCell' = true) (hu : ∀ j v, us[j]? = some v → w.cell? ⟨vb, 0 + j, none⟩ = some v)
    (hsa : w.shape? vb = some (tA, kA)) (hfa : w.frozen? ⟨vb, 0, none⟩ = false) (hfe : w.frozen? ⟨vb, kA, none⟩ = false) :
    Calls Try.prog 107 #[.slice (some ⟨b, 0, none⟩) n cap, .int .i64 i, .slice (some ⟨vb, 0, none⟩) 1 vc] w
      (InsRet base w (some ⟨b, 0, none⟩) n cap (xs.take (i * 2) ++ us ++ xs.drop (i * 2))) := by
  have hxl : xs.length = n * 2 := by rw [← htake, List.length_take, Array.length_toList, hcs]; omega
  have hcl : (n + 1) * 2 ≤ cur.toList.length := by rw [Array.length_toList, hcs]; omega
  have hsb : w.shape? b = some (92, cur.size) := by simp [World.shape?, hheap]
  have hov : ∀ lb cb, (callFunc 109 #[.slice (some ⟨vb, 0, none⟩) 1 vc, .slice (some ⟨b, (i + 1) * 2, none⟩) lb cb]).run Try.prog w = .ok (.value (.bool false)) w := fun lb cb => by
    rw [run_callFunc_extern Try.func109 (by kernel_rfl) (by kernel_rfl) (by kernel_rfl) (e := Extern.SlicesOverlaps.overlaps #[88, 88] #[4]) (by kernel_rfl),
      Lib.run_overlaps_apart w 88 4 92 Try.underlying88 2 Try.sizeOf92 ⟨vb, 0, none⟩ ⟨b, (i + 1) * 2, none⟩ 1 vc lb cb hvb tA 92 kA cur.size hsa hsb (by omega) hfa hfe]
    rfl
  obtain ⟨c1, hc1⟩ : ∃ c1, c1 = cur.toList.take ((i + 1) * 2) ++ xs.drop (i * 2) ++ cur.toList.drop ((i + 1) * 2 + (xs.drop (i * 2)).length) := ⟨_, rfl⟩
  obtain ⟨c2, hc2⟩ : ∃ c2, c2 = c1.take (i * 2) ++ us ++ c1.drop (i * 2 + us.length) := ⟨_, rfl⟩
  obtain ⟨m1, m2, m3⟩ := two_copies hi hxl hul hcl (by rw [← htake, List.take_take, show min (i * 2) (n * 2) = i * 2 from by omega]) hc1 hc2
  have hdl : (xs.drop (i * 2)).length = (n - i) * 2 := by rw [List.length_drop, hxl]; omega
  have hcell : ∀ j v, xs[j]? = some v → w.cell? ⟨b, j, none⟩ = some v := fun j v hv => by
    rw [cell_of_row w b j cur _ (0, 0) hheap, ← Array.getElem?_toList]
    rw [← htake, List.getElem?_take] at hv
    split at hv
    · exact hv
    · cases hv
  have hcp1 : ∀ ty dc sc, (Builtin.copy_ #[88, 88] ty #[.slice (some ⟨b, (i + 1) * 2, none⟩) (n - i) dc, .slice (some ⟨b, i * 2, none⟩) (n + 1 - i) sc]).run Try.prog w.drew = .ok (goInt (n - i : Nat)) (w.drew.setRow b c1.toArray) := fun ty dc sc => by
    have := run_copyK (P := Try.prog) w.drew 88 88 ty 92 2 b ((i + 1) * 2) (n - i) dc (n - i) ⟨b, i * 2, none⟩ (n + 1 - i) sc cur 92 (xs.drop (i * 2)) Try.underlying88 Try.sizeLnk hheap
      (by simp only [Nat.min_def]; split <;> omega) hdl (fun j v hj => by rw [Addr.add_lit]; exact hcell _ v (by rwa [List.getElem?_drop] at hj)) (by rw [hdl, hcs]; omega) (fun v hv => hx1 v (List.mem_of_mem_drop hv))
    rw [this, hc1]
  have hW1 : (w.drew.setRow b c1.toArray).heap[b]? = some (.cells c1.toArray 92 (0, 0)) := setRow_heap w.drew b cur c1.toArray _ (0, 0) hheap
  have hcp2 : ∀ (W : World), W.heap = (w.drew.setRow b c1.toArray).heap → ∀ ty dc, (Builtin.copy_ #[88, 88] ty #[.slice (some ⟨b, i * 2, none⟩) (n + 1 - i) dc, .slice (some ⟨vb, 0, none⟩) 1 vc]).run Try.prog W = .ok (goInt (1 : Nat)) (W.setRow b c2.toArray) := fun W hWh ty dc => by
    have := run_copyK (P := Try.prog) W 88 88 ty 92 2 b (i * 2) (n + 1 - i) dc 1 ⟨vb, 0, none⟩ 1 vc c1.toArray 92 us Try.underlying88 Try.sizeLnk (by rw [hWh]; exact hW1)
      (by simp only [Nat.min_def]; split <;> omega) (by rw [hul]) (fun j v hj => by
        rw [Addr.add_lit, World.cell?_of_block (w := w) (a := ⟨vb, 0 + j, none⟩) (by rw [hWh]; exact setRow_other w.drew b vb _ hvb)]
        exact hu j v hj) (by rw [hul, List.size_toArray, m1, Array.length_toList, hcs]; omega) hu1
    rw [this, hc2]
  obtain ⟨W1, hW⟩ : ∃ W1, W1 = w.drew.setRow b c1.toArray := ⟨_, rfl⟩
  have hfin : ∀ W : World, W.heap = W1.heap → W.os = w.os → W.tape = w.tape → W.output = w.output → (W.setRow b c2.toArray).ownsRow base 92 2 (.slice (some ⟨b, 0, none⟩) (n + 1) cap) (n + 1) (xs.take (i * 2) ++ us ++ xs.drop (i * 2)) ∧ w.grownBy (W.setRow b c2.toArray) (Value.ownBlock (.slice (some ⟨b, 0, none⟩) n cap)) := fun W hh ho ht hp => by
    refine ⟨⟨?_, .inr ⟨b, cap, c2.toArray, rfl, hbb, setRow_heap W b c1.toArray c2.toArray _ (0, 0) (by rw [hh, hW]; exact hW1), hroom, hcm, by rw [List.size_toArray, m2, Array.length_toList, hcs], by rw [← m3]⟩⟩, ⟨ho, ht, hp, ?_, fun k hk hne => ?_⟩⟩
    · rw [List.length_append, List.length_append, List.length_take, hdl, hul]; omega
    · have : W.heap.size = w.heap.size := by rw [hh, hW]; simp [World.setRow]
      simp [World.setRow, this]
    · have hkb : k ≠ b := fun e => hne (by rw [e]; rfl)
      rw [setRow_other W b k _ hkb, hh, hW, setRow_other w.drew b k _ hkb]; rfl
  have hW1w : W1.os = w.os ∧ W1.tape = w.tape ∧ W1.output = w.output := by rw [hW]; exact ⟨rfl, rfl, rfl⟩
  rw [← hW] at hcp1 hcp2
  have HF := Lib.hid hfin
  have hcp3 := hcp2 W1 rfl
  have HWW := Lib.hid hW1w
  clear hfin hcp2 hcell hW1w hdl m1 m2 m3 hc1 hc2 hsb hxl hcl hW1 hW hu hu1 hsa hfa hfe hx1 htake hcs hheap hul
  have e1 : (i : Int) + 1 = ((i + 1 : Nat) : Int) := by omega
  have hin : (i : Int) ≤ (n : Int) := by omega
  have hne : ¬ ((i : Int) = (n : Int)) := by omega
  have hb3 : (i : Int) ≤ (n : Int) + 1 := by omega
  have hb1 : (0 : Int) ≤ (i : Int) + 1 := by omega
  have htn : ((i : Int) + 1).toNat = i + 1 := by omega
  have hb2 : ¬ (cap = i + 1) := by omega
  have hb4 : ¬ (cap = i) := by omega
  have hcm' : cap ≤ 9223372036854775807 := by unfold maxLen at hcm; omega
  have hnn : ((n : Int) + 1).toNat = n + 1 := by omega
  have hrl : ¬ ((cap : Int) < (n : Int) + 1) := by omega
  have mixed : Try.prog.follows .mixedOrders = true := by kernel_rfl
  have hw1 : IntKind.i64.wrap ((i : Int) + 1) = (i : Int) + 1 := by rw [IntKind.wrap_i64]; omega
  clear e1
  go_enter Try.func107, Try.ntmps107
  go_wp2_with (simp only [hov])
  go_region_law_o (refine step_copyK rfl _ _ 88 88 rfl (.slice (some ⟨b, (i + 1) * 2, none⟩) (n - i) (cap - (i + 1))) (.slice (some ⟨b, i * 2, none⟩) (n + 1 - i) (cap - i)) (by simp [Act.eval, Act.put]) (by simp [Act.eval, Act.put]) (hcp1 3 (cap - (i + 1)) (cap - i)) ?_)
  go_wp2
  go_ret
  obtain ⟨f1, f2⟩ := HF.out W1 rfl HWW.out.1 HWW.out.2.1 HWW.out.2.2
  exact ⟨_, _, rfl, f1, f2, fun a ha => .inl ha⟩

set_option maxRecDepth 100000 in
set_option maxHeartbeats 4000000 in
/-- in the middle, where there is no room: a new row -/
theorem insert_grow (base : Nat) (b n cap i : Nat) (xs us : List Value) (vb vc : Nat) (w : World) (hn : n ≤ 1000) (hi : i < n) (hbase : base ≤ w.heap.size) (hnc : n ≤ cap)
    (hroom : cap < n + 1) (hxl : xs.length = n * 2) (hcell : ∀ j v, xs[j]? = some v → w.cell? ⟨b, j, none⟩ = some v) (hx1 : ∀ v ∈ xs, v.oneCell' = true)
    (hul : us.length = 2) (hu1 : ∀ v ∈ us, v.oneCell' = true) (hu : ∀ j v, us[j]? = some v → w.cell? ⟨vb, 0 + j, none⟩ = some v) :
    Calls Try.prog 107 #[.slice (some ⟨b, 0, none⟩) n cap, .int .i64 i, .slice (some ⟨vb, 0, none⟩) 1 vc] w
      (InsRet base w (some ⟨b, 0, none⟩) n cap (xs.take (i * 2) ++ us ++ xs.drop (i * 2))) := by
  obtain rfl : cap = n := by omega
  obtain ⟨i0, hi0, hz0, hzs, hzb⟩ := info_parts Try.infoLnk
  have hbw : b < w.heap.size := block_lt_of_cell (hcell 0 _ (List.getElem?_eq_getElem (by omega)))
  have hvw : vb < w.heap.size := block_lt_of_cell (hu 0 _ (List.getElem?_eq_getElem (by omega)))
  have hold : (Builtin.firstCells i0.size i (.slice (some ⟨b, 0, none⟩) i cap)).run Try.prog w.drew = .ok (xs.take (i * 2)).toArray w.drew := by
    rw [hzs]
    exact run_firstCells_some w.drew 2 i ⟨b, 0, none⟩ i cap (xs.take (i * 2)) (by rw [List.length_take]; omega) (fun j v hj => by
      rw [Addr.add_lit, Nat.zero_add]
      rw [List.getElem?_take] at hj
      split at hj
      · exact hcell j v hj
      · cases hj)
  have hik : i + (cap + 1 - i) = cap + 1 := by omega
  have hkk : (cap : Int) + 1 - (i : Int) = ((cap + 1 - i : Nat) : Int) := by omega
  have hrz : ∀ ty, (Builtin.append_ #[88, 3] ty #[.slice (some ⟨b, 0, none⟩) i cap, .int .i64 ((cap : Int) + 1 - (i : Int))]).run Try.prog w =
      .ok (.slice (some ⟨w.heap.size, 0, none⟩) (cap + 1) (grownCap w (cap + 1) cap 92)) (w.drew.alloc (.cells ((xs.take (i * 2)).toArray ++ Builtin.zeroCells (Value.agg #[.pointer none, .int .i64 0]).cells (cap + 1 - i) ++ Builtin.zeroCells (Value.agg #[.pointer none, .int .i64 0]).cells (grownCap w (cap + 1) cap 92 - (cap + 1))) 92)) := fun ty => by
    have h := Lib.run_append_grow_zeros (P := Try.prog) w 88 3 ty 92 i0 _ .i64 .i64 Try.underlying88 Try.underlying3 hi0 hz0 (some ⟨b, 0, none⟩) i cap (xs.take (i * 2)) hold (cap + 1 - i) (by omega) (by rw [hzs]; decide) (by omega) (by omega) (by rw [hzb]; omega) (by rw [hzb, hik]; exact growslice_fits hroom (by omega))
    rw [hik] at h
    rw [hkk]
    exact h
  obtain ⟨G, hG⟩ : ∃ G, G = grownCap w (cap + 1) cap 92 := ⟨_, rfl⟩
  obtain ⟨ROW, hROW⟩ : ∃ ROW : Array Value, ROW = (xs.take (i * 2)).toArray ++ Builtin.zeroCells (Value.agg #[.pointer none, .int .i64 0]).cells (cap + 1 - i) ++ Builtin.zeroCells (Value.agg #[.pointer none, .int .i64 0]).cells (G - (cap + 1)) := ⟨_, rfl⟩
  rw [← hG] at hrz
  rw [← hROW] at hrz
  have hGn : cap + 1 ≤ G := by rw [hG]; exact grownCap_ge w _ _ _
  have hGm : G ≤ maxLen := by
    have := grownCap_le_maxLen w (cap + 1) cap 92 (by unfold maxLen; omega)
    rw [← hG] at this; exact this
  have hRl : ROW.size = G * 2 := by
    rw [hROW]
    simp [Builtin.zeroCells, Value.cells]
    omega
  have hRt : ROW.toList.take (i * 2) = xs.take (i * 2) := by
    rw [hROW, Array.toList_append, Array.toList_append, List.append_assoc, List.take_append_of_le_length (by simp; omega)]
    rw [show ((xs.take (i * 2)).toArray).toList = xs.take (i * 2) from rfl, List.take_take, Nat.min_self]
  obtain ⟨c1, hc1⟩ : ∃ c1, c1 = ROW.toList.take (i * 2) ++ us ++ ROW.toList.drop (i * 2 + us.length) := ⟨_, rfl⟩
  obtain ⟨c2, hc2⟩ : ∃ c2, c2 = c1.take ((i + 1) * 2) ++ xs.drop (i * 2) ++ c1.drop ((i + 1) * 2 + (xs.drop (i * 2)).length) := ⟨_, rfl⟩
  obtain ⟨m1, m2, m3⟩ := two_copies' hi hxl hul (show (cap + 1) * 2 ≤ ROW.toList.length by rw [Array.length_toList, hRl]; omega) hRt hc1 hc2
  have hdl : (xs.drop (i * 2)).length = (cap - i) * 2 := by rw [List.length_drop, hxl]; omega
  obtain ⟨W1, hW1⟩ : ∃ W1, W1 = w.drew.alloc (.cells ROW 92) := ⟨_, rfl⟩
  rw [← hW1] at hrz
  have hN1 : W1.heap[w.heap.size]? = some (.cells ROW 92 (0, 0)) := by rw [hW1]; exact heap_alloc_new w.drew _
  have hold1 : ∀ k, k < w.heap.size → W1.heap[k]? = w.heap[k]? := fun k hk => by rw [hW1]; exact (below_alloc w.drew _).block k hk
  have hcpA : ∀ (W : World), W.heap = W1.heap → ∀ ty dc, (Builtin.copy_ #[88, 88] ty #[.slice (some ⟨w.heap.size, i * 2, none⟩) (cap + 1 - i) dc, .slice (some ⟨vb, 0, none⟩) 1 vc]).run Try.prog W = .ok (goInt (1 : Nat)) (W.setRow w.heap.size c1.toArray) := fun W hWh ty dc => by
    have := run_copyK (P := Try.prog) W 88 88 ty 92 2 w.heap.size (i * 2) (cap + 1 - i) dc 1 ⟨vb, 0, none⟩ 1 vc ROW 92 us Try.underlying88 Try.sizeLnk (by rw [hWh]; exact hN1)
      (by simp only [Nat.min_def]; split <;> omega) (by rw [hul]) (fun j v hj => by
        rw [Addr.add_lit, World.cell?_of_block (w := w) (a := ⟨vb, 0 + j, none⟩) (by rw [hWh]; exact hold1 vb hvw)]
        exact hu j v hj) (by rw [hul, hRl]; omega) hu1
    rw [this, hc1]
  obtain ⟨W2, hW2⟩ : ∃ W2, W2 = W1.setRow w.heap.size c1.toArray := ⟨_, rfl⟩
  have hN2 : W2.heap[w.heap.size]? = some (.cells c1.toArray 92 (0, 0)) := by rw [hW2]; exact setRow_heap W1 _ ROW _ _ (0, 0) hN1
  have hold2 : ∀ k, k < w.heap.size → W2.heap[k]? = w.heap[k]? := fun k hk => by rw [hW2, setRow_other W1 _ k _ (by omega)]; exact hold1 k hk
  have hcpB : ∀ (W : World), W.heap = W2.heap → ∀ ty dc sc, (Builtin.copy_ #[88, 88] ty #[.slice (some ⟨w.heap.size, (i + 1) * 2, none⟩) (cap - i) dc, .slice (some ⟨b, i * 2, none⟩) (cap - i) sc]).run Try.prog W = .ok (goInt (cap - i : Nat)) (W.setRow w.heap.size c2.toArray) := fun W hWh ty dc sc => by
    have := run_copyK (P := Try.prog) W 88 88 ty 92 2 w.heap.size ((i + 1) * 2) (cap - i) dc (cap - i) ⟨b, i * 2, none⟩ (cap - i) sc c1.toArray 92 (xs.drop (i * 2)) Try.underlying88 Try.sizeLnk (by rw [hWh]; exact hN2)
      (by simp only [Nat.min_def]; split <;> omega) hdl (fun j v hj => by
        rw [Addr.add_lit, World.cell?_of_block (w := w) (a := ⟨b, i * 2 + j, none⟩) (by rw [hWh]; exact hold2 b hbw)]
        exact hcell _ v (by rwa [List.getElem?_drop] at hj)) (by rw [hdl, List.size_toArray, m1, Array.length_toList, hRl]; omega) (fun v hv => hx1 v (List.mem_of_mem_drop hv))
    rw [this, hc2]
  have hfin : ∀ W : World, W.heap = W2.heap → W.os = w.os → W.tape = w.tape → W.output = w.output → (W.setRow w.heap.size c2.toArray).ownsRow base 92 2 (.slice (some ⟨w.heap.size, 0, none⟩) (cap + 1) G) (cap + 1) (xs.take (i * 2) ++ us ++ xs.drop (i * 2)) ∧ w.grownBy (W.setRow w.heap.size c2.toArray) (Value.ownBlock (.slice (some ⟨b, 0, none⟩) cap cap)) := fun W hh ho ht hp => by
    refine ⟨⟨?_, .inr ⟨w.heap.size, G, c2.toArray, rfl, hbase, setRow_heap W _ c1.toArray c2.toArray _ (0, 0) (by rw [hh]; exact hN2), hGn, hGm, by rw [List.size_toArray, m2, Array.length_toList, hRl], by rw [← m3]⟩⟩, ⟨ho, ht, hp, ?_, fun k hk hne => ?_⟩⟩
    · rw [List.length_append, List.length_append, List.length_take, hdl, hul]; omega
    · have : W.heap.size = w.heap.size + 1 := by rw [hh, hW2, hW1]; simp [World.setRow]
      simp [World.setRow, this]
    · rw [setRow_other W _ k _ (by omega), hh]; exact hold2 k hk
  have hcA := hcpA W1 rfl
  rw [← hW2] at hcA
  have hW2w : W2.drew.os = w.os ∧ W2.drew.tape = w.tape ∧ W2.drew.output = w.output := by rw [hW2, hW1]; exact ⟨rfl, rfl, rfl⟩
  have hcB := hcpB W2.drew rfl
  have HF := Lib.hid (hfin W2.drew rfl hW2w.1 hW2w.2.1 hW2w.2.2)
  clear hfin hcpA hcpB hcell hW2w hdl m1 m2 m3 hc1 hc2 hxl hW2 hN2 hold2 hW1 hN1 hold1 hu hu1 hx1 hul hRl hRt hROW hG hold hkk hik hbw hvw hi0 hz0 hzs hzb
  have hin : (i : Int) ≤ (cap : Int) := by omega
  have hne : ¬ ((i : Int) = (cap : Int)) := by omega
  have hb3 : (i : Int) ≤ (cap : Int) + 1 := by omega
  have hb1 : (0 : Int) ≤ (i : Int) + 1 := by omega
  have htn : ((i : Int) + 1).toNat = i + 1 := by omega
  have hb2 : ¬ (G = i + 1) := by omega
  have hb4 : ¬ (G = i) := by omega
  have hb5 : ¬ (cap = i) := by omega
  have hcm' : G ≤ 9223372036854775807 := by unfold maxLen at hGm; omega
  have hnn : ((cap : Int) + 1).toNat = cap + 1 := by omega
  have hrl : ((cap : Int) < (cap : Int) + 1) := by omega
  have mixed : Try.prog.follows .mixedOrders = true := by kernel_rfl
  have hw1 : IntKind.i64.wrap ((i : Int) + 1) = (i : Int) + 1 := by rw [IntKind.wrap_i64]; omega
  go_enter Try.func107, Try.ntmps107
  go_wp2_with (at_builtin; refine wpList_append_run' _ rfl _ _ _ _ rfl _ _ rfl rfl (hrz _) ?_)
  go_region_law_o (refine step_copyK rfl _ _ 88 88 rfl (.slice (some ⟨w.heap.size, (i + 1) * 2, none⟩) (cap - i) (G - (i + 1))) (.slice (some ⟨b, i * 2, none⟩) (cap - i) (cap - i)) (by simp [Act.eval, Act.put]) (by simp [Act.eval, Act.put]) (hcB 3 (G - (i + 1)) (cap - i)) ?_)
  go_wp2
  go_ret
  exact ⟨_, _, rfl, HF.out.1, HF.out.2, fun a ha => .inr (by simp only [Option.some.injEq] at ha; subst ha; exact Nat.le_refl _)⟩

/-- one link put among links: wherever, whether there is room or none -/
theorem insert_any (base : Nat) (ao : Option Addr) (n cap i : Nat) (xs us : List Value) (vb vc : Nat) (w : World) (tA : TypeId) (kA : Nat) (hn : n ≤ 1000) (hi : i ≤ n) (hb : base ≤ w.heap.size) (hown : w.ownsRow base 92 2 (.slice ao n cap) n xs) (hx1 : ∀ v ∈ xs, v.oneCell' = true)
    (hvb : ∀ a, ao = some a → vb ≠ a.block) (hul : us.length = 2) (hu1 : ∀ v ∈ us, v.oneCell' = true) (hu : ∀ j v, us[j]? = some v → w.cell? ⟨vb, 0 + j, none⟩ = some v)
    (hsa : w.shape? vb = some (tA, kA)) (hfa : w.frozen? ⟨vb, 0, none⟩ = false) (hfe : w.frozen? ⟨vb, kA, none⟩ = false) :
    Calls Try.prog 107 #[.slice ao n cap, .int .i64 i, .slice (some ⟨vb, 0, none⟩) 1 vc] w
      (InsRet base w ao n cap (xs.take (i * 2) ++ us ++ xs.drop (i * 2))) := by
  have hxl := hown.1
  rcases Nat.lt_or_ge i n with hlt | hge
  · rcases hown.2 with ⟨_, h0⟩ | ⟨g, cap', cur, hv, hbg, hgg, hnc, hcm, hcs, htake⟩
    · omega
    · have hv' := hv
      simp only [Value.slice.injEq] at hv'
      obtain ⟨rfl, _, rfl⟩ := hv'
      by_cases hroom : n + 1 ≤ cap
      · exact insert_shift base g n cap i xs us cur vb vc w tA kA hn hlt hbg hgg hroom hcm hcs htake hx1 (hvb _ rfl) hul hu1 hu hsa hfa hfe
      · refine insert_grow base g n cap i xs us vb vc w hn hlt hb hnc (by omega) hxl (fun j v hj => ?_) hx1 hul hu1 hu
        rw [cell_of_row w g j cur _ (0, 0) hgg, ← Array.getElem?_toList]
        rw [← htake, List.getElem?_take] at hj
        split at hj
        · exact hj
        · cases hj
  · obtain rfl : i = n := by omega
    have := insert_end base ao i cap xs us vb vc w hn hb hown hul hu1 hu
    rw [List.take_of_length_le (by omega), List.drop_of_length_le (by omega), List.append_nil]
    exact this

end Go.Proofs.Ytjcbfijliacicaa
