/-
  Merged texts: FilT FilU.
-/
import Derived.Test.YtpgcpmfemcfoaaaFilMO
import Derived.Test.YtpgcpmfemcfoaaaPutO
import Derived.Test.YtpgcpmfemcfoaaaNestsO
import Derived.Maps.AppendAt
import Derived.Deep.Cut

/-
  All plans of some rows and columns as texts: the model's list. (Memory; mathematics.)
-/
namespace Go.Proofs.Ytpgcpmfemcfoaaa
open Go.RowKit

/-- a cell's sign: a dot if it is free, else the room's letter -/
def byZ (v : Nat) : UInt8 := if v = 0 then 46 else UInt8.ofNat (96 + v)
def txtZ (h wd : Nat) (z : Nat → Nat → Nat) : List ByteArray := matB h wd (fun i j => byZ (z i j))
theorem txtZ_len (h wd : Nat) (z : Nat → Nat → Nat) : (txtZ h wd z).length = h := matB_len _ _ _
theorem byZ_dot {v : Nat} (h : v ≤ 9) : (byZ v == 46) = (v == 0) := by
  have : ∀ v, v ≤ 9 → (byZ v == 46) = (v == 0) := by decide
  exact this v h

/-- texts in a block of texts -/
def TxtB (w : World) (bo : Option Addr) (l : List ByteArray) : Prop :=
  ∃ b off cur, bo = some ⟨b, off, none⟩ ∧ w.heap[b]? = some (.cells cur 9 (0, 0)) ∧ ∀ j v, (l.map Value.string)[j]? = some v → cur[off + j]? = some v
theorem TxtB.cells {w : World} {bo : Option Addr} {l : List ByteArray} (h : TxtB w bo l) : CellsAt w bo (l.map Value.string) := fun i u hu => by
  obtain ⟨b, off, cur, rfl, hb, hc⟩ := h
  exact ⟨b, off, rfl, by rw [cell_of_row w b (off + i) cur 9 (0, 0) hb]; exact hc i u hu⟩
theorem TxtB.kept {w w' : World} {bo : Option Addr} {l : List ByteArray} (h : TxtB w bo l) (hk : ∀ (b : Nat) (cur : Array Value), w.heap[b]? = some (Obj.cells cur 9 (0, 0)) → w'.heap[b]? = w.heap[b]?) : TxtB w' bo l := by
  obtain ⟨b, off, cur, rfl, hb, hc⟩ := h
  exact ⟨b, off, cur, rfl, (hk b cur hb).trans hb, hc⟩
theorem TxtB.below {w w' : World} {bo : Option Addr} {l : List ByteArray} (h : TxtB w bo l) (hb : Below w.heap.size w w') : TxtB w' bo l :=
  h.kept fun b _ hc => hb.block b (Array.getElem?_eq_some_iff.1 hc).1
/-- a block of other things turns: texts stay -/
theorem TxtB.grown {w w' : World} {bo : Option Addr} {l : List ByteArray} {g : Nat} {cur : Array Value} (h : TxtB w bo l) (hg : w.grownBy w' (some g)) (ht : w.heap[g]? = some (.cells cur 23 (0, 0))) : TxtB w' bo l :=
  h.kept fun b c hc => hg.block b (Array.getElem?_eq_some_iff.1 hc).1 (fun e => by
    simp only [Option.some.injEq] at e
    subst e
    rw [ht] at hc
    simp at hc)
theorem TxtB.of {w : World} {base n cap : Nat} {ao : Option Addr} {l : List ByteArray} (h : w.ownsRow base 9 1 (.slice ao n cap) n (l.map Value.string)) (hn : 0 < n) : TxtB w ao l := by
  rcases h.2 with ⟨hv, h0⟩ | ⟨g, c, cur, hv, _, hg, _, _, _, ht⟩
  · omega
  · simp only [Value.slice.injEq] at hv
    obtain ⟨rfl, _, _⟩ := hv
    refine ⟨g, 0, cur, rfl, hg, fun j v hj => ?_⟩
    rw [← ht, List.getElem?_take] at hj
    split at hj
    · rw [Nat.zero_add]; simpa using hj
    · cases hj

/-- plans' texts, told by where they begin -/
def PlansV (w : World) (us : List Value) (L : List (List ByteArray)) : Prop :=
  us.length = L.length ∧ ∀ (i : Nat) (l : List ByteArray), L[i]? = some l → ∃ bo c, us[i]? = some (.slice bo l.length c) ∧ TxtB w bo l
theorem PlansV.nil (w : World) : PlansV w [] [] := ⟨rfl, fun i l h => by simp at h⟩
theorem PlansV.kept {w w' : World} {us : List Value} {L : List (List ByteArray)} (h : PlansV w us L) (hk : ∀ (b : Nat) (cur : Array Value), w.heap[b]? = some (Obj.cells cur 9 (0, 0)) → w'.heap[b]? = w.heap[b]?) : PlansV w' us L :=
  ⟨h.1, fun i l hl => by obtain ⟨bo, c, h1, h2⟩ := h.2 i l hl; exact ⟨bo, c, h1, h2.kept hk⟩⟩
theorem PlansV.below {w w' : World} {us : List Value} {L : List (List ByteArray)} (h : PlansV w us L) (hb : Below w.heap.size w w') : PlansV w' us L :=
  h.kept fun b _ hc => hb.block b (Array.getElem?_eq_some_iff.1 hc).1
theorem PlansV.grown {w w' : World} {us : List Value} {L : List (List ByteArray)} {g : Nat} {cur : Array Value} (h : PlansV w us L) (hg : w.grownBy w' (some g)) (ht : w.heap[g]? = some (.cells cur 23 (0, 0))) : PlansV w' us L :=
  ⟨h.1, fun i l hl => by obtain ⟨bo, c, h1, h2⟩ := h.2 i l hl; exact ⟨bo, c, h1, h2.grown hg ht⟩⟩
theorem PlansV.append {w : World} {us vs : List Value} {L M : List (List ByteArray)} (h : PlansV w us L) (k : PlansV w vs M) : PlansV w (us ++ vs) (L ++ M) := by
  refine ⟨by rw [List.length_append, List.length_append, h.1, k.1], fun i l hl => ?_⟩
  rcases Nat.lt_or_ge i L.length with hi | hi
  · rw [List.getElem?_append_left hi] at hl
    rw [List.getElem?_append_left (by rw [h.1]; exact hi)]
    exact h.2 i l hl
  · rw [List.getElem?_append_right hi] at hl
    rw [List.getElem?_append_right (by rw [h.1]; exact hi), h.1]
    exact k.2 _ l hl
theorem PlansV.one {w : World} {bo : Option Addr} {c : Nat} {l : List ByteArray} (h : TxtB w bo l) : PlansV w [.slice bo l.length c] [l] := by
  refine ⟨rfl, fun i m hm => ?_⟩
  cases i with
  | zero =>
    simp only [List.getElem?_cons_zero, Option.some.injEq] at hm
    subst hm; exact ⟨bo, c, rfl, h⟩
  | succ i => simp at hm
theorem PlansV.ones {w : World} {us : List Value} {L : List (List ByteArray)} (h : PlansV w us L) : ∀ v ∈ us, v.oneCell' = true := fun v hv => by
  obtain ⟨i, hi, rfl⟩ := List.mem_iff_getElem.1 hv
  obtain ⟨bo, c, h1, _⟩ := h.2 i (L[i]'(by rw [← h.1]; exact hi)) (List.getElem?_eq_getElem _)
  rw [List.getElem?_eq_getElem hi] at h1
  rw [Option.some.inj h1]; rfl

/-- a plan's text with one more room laid -/
theorem put_txt {h wd : Nat} (hh : 1 ≤ h) (z : Nat → Nat → Nat) (i j hi wi r : Nat) : putB (txtZ h wd z) i j hi wi (UInt8.ofNat (97 + r)) = txtZ h wd (putZ z i j hi wi (r + 1)) := by
  have hl := txtZ_len h wd z
  have hw : wideB (txtZ h wd z) = wd := matB_wide hh
  have hb : ∀ a b, a < h → b < wd → byteAt (txtZ h wd z) a b = byZ (z a b) := fun a b ha hb => byteAt_mat ha hb
  unfold putB
  rw [hl, hw]
  unfold txtZ
  refine matB_congr fun a b ha hb' => ?_
  unfold putF inB putZ
  by_cases hc : i ≤ a ∧ a < i + hi ∧ j ≤ b ∧ b < j + wi
  · rw [if_pos hc, if_pos (by simpa using hc)]
    unfold byZ
    rw [if_neg (by omega), show 96 + (r + 1) = 97 + r by omega]
  · rw [if_neg hc, if_neg (by simpa using hc)]
    exact hb a b ha hb'
end Go.Proofs.Ytpgcpmfemcfoaaa

/-
  All plans of some rows and columns: the model's list. (Walks.)
-/
namespace Go.Proofs.Ytpgcpmfemcfoaaa
open Go.RowKit

theorem row_txt {h wd i : Nat} {z : Nat → Nat → Nat} (hi : i < h) : ((txtZ h wd z).getD i ByteArray.empty).size = wd ∧ ∀ j, j < wd → ((txtZ h wd z).getD i ByteArray.empty).data.toList.getD j 0 = byZ (z i j) := by
  unfold txtZ
  rw [matB_row hi]
  refine ⟨by show (rowM _ _ _).toArray.size = wd; rw [List.size_toArray, rowM_len], fun j hj => ?_⟩
  show (rowM wd (fun i j => byZ (z i j)) i).getD j 0 = _
  rw [List.getD_eq_getElem?_getD, List.getElem?_eq_getElem (by rw [rowM_len]; exact hj), Option.getD_some, rowM_at]

/-- plans are put behind plans of the call's own -/
theorem wpList_pushS {P : Program} (w : World) {ops : Array Oper} {rest : List Oper} {o : Oper} {a : Act} {Q : Exit → Act → World → Prop} (hgd : o.guard = none) (s x : Operand) (t : TypeId)
    (ho : o.op = .call { callee := .builtin .append, args := #[s, x], argTypes := #[t, t] })
    (base : Nat) (e : TypeId) (i : TypeInfo) (z : Value) (bytes : Nat) (ht : P.underlying t = some (.slice e)) (hi : P.info? e = some i) (hz : i.zero = some z)
    (hsize : i.size = 1) (hby : i.bytes = bytes) (hzs : z.cells.size = 1) (g0 : Nat) (n cap : Nat) (xs : List Value) (hs : a.eval s = .slice (some ⟨g0, 0, none⟩) n cap) (hown : w.ownsRow base e 1 (.slice (some ⟨g0, 0, none⟩) n cap) n xs)
    (us : List Value) (m : Nat) (g c : Nat) (hx : a.eval x = .slice (some ⟨g, 0, none⟩) m c) (hl : us.length = m) (hu : CellsAt w (some ⟨g, 0, none⟩) us) (h1 : ∀ v ∈ us, v.oneCell' = true) (h63 : n + m ≤ maxLen) (hbytes : (n + m) * bytes ≤ 140737488355328) (hbase : base ≤ w.heap.size)
    (h : ∀ g' cap' w', w'.ownsRow base e 1 (.slice (some ⟨g', 0, none⟩) (n + m) cap') (n + m) (xs ++ us) → w.grownBy w' (some g0) → wpList P ops Q rest (a.put o.dst (.slice (some ⟨g', 0, none⟩) (n + m) cap')) w') : wpList P ops Q (o :: rest) a w := by
  have hu' : ∀ j v, us[j]? = some v → w.cell? ⟨g, 0 + j, none⟩ = some v := fun j v hj => by
    obtain ⟨b', off', e, hc⟩ := hu j v hj
    cases e
    exact hc
  refine Go.wpList_append_own_at w hgd s x t ho base e i z 1 bytes ht hi hz hsize hby hzs (by decide) _ n xs hs hown ⟨g, 0, none⟩ m c us hx (by omega) (fun j u hj => by rw [← hu' j u hj, Addr.add_lit]) h1 h63 hbytes hbase ?_
  intro v' w' hown' hg hnn _
  rcases hown'.2 with ⟨hv, _⟩ | ⟨g', cap', cur, hv, _⟩
  · exact absurd (hnn.1 hv).1 (by simp)
  · subst hv
    exact h g' cap' w' hown' hg

theorem Try.infoStrs : (Try.prog.info? 23).map (fun i => (i.zero, i.size, i.bytes)) = some (some (.slice none 0 0), 1, 24) := by kernel_rfl
theorem own_at {w : World} {base n cap g : Nat} {e : TypeId} {xs : List Value} (h : w.ownsRow base e 1 (.slice (some ⟨g, 0, none⟩) n cap) n xs) : (∃ cur, w.heap[g]? = some (.cells cur e (0, 0))) ∧ CellsAt w (some ⟨g, 0, none⟩) xs ∧ base ≤ g := by
  rcases h.2 with ⟨hv, _⟩ | ⟨g', c, cur, hv, hbg, hg, _, _, _, ht⟩
  · simp at hv
  · simp only [Value.slice.injEq, Option.some.injEq, Addr.mk.injEq] at hv
    obtain ⟨⟨rfl, _⟩, _⟩ := hv
    refine ⟨⟨cur, hg⟩, fun j v hj => ⟨g, 0, rfl, ?_⟩, hbg⟩
    rw [cell_of_row w g (0 + j) cur e (0, 0) hg]
    rw [← ht, List.getElem?_take] at hj
    split at hj
    · rw [Nat.zero_add]; simpa using hj
    · cases hj
/-- what comes back: a list of plans of the call's own -/
def PlnRet (w w' : World) (L : List (List ByteArray)) (e : Ending) : Prop :=
  ∃ g c us, e = .returned (.slice (some ⟨g, 0, none⟩) L.length c) ∧ w'.ownsRow w.heap.size 23 1 (.slice (some ⟨g, 0, none⟩) L.length c) L.length us ∧ PlansV w' us L
def lstT (h wd : Nat) (K : List (Nat × (Nat → Nat → Nat))) : List (List ByteArray) := K.map fun x => txtZ h wd x.2
theorem lstT_append (h wd : Nat) (K K' : List (Nat × (Nat → Nat → Nat))) : lstT h wd (K ++ K') = lstT h wd K ++ lstT h wd K' := by simp [lstT]
theorem lstT_len (h wd : Nat) (K : List (Nat × (Nat → Nat → Nat))) : (lstT h wd K).length = K.length := by simp [lstT]
/-- what a call of the model's l5Fill does with plans that have at most so many free cells -/
def FilOk (h wd k : Nat) : Prop := ∀ (r : Nat) (z : Nat → Nat → Nat) (po : Option Addr) (pc : Nat) (w : World), FilI h wd r z → freeC wd z h ≤ k → (fillZ h wd k r z).length ≤ 1000000 → TxtB w po (txtZ h wd z) →
  Calls Try.prog 73 #[.slice po h pc, .int .i64 (r : Int)] w fun e w' => PlnRet w w' (lstT h wd (fillZ h wd k r z)) e ∧ Below w.heap.size w w'

set_option maxRecDepth 100000 in
set_option maxHeartbeats 8000000 in
theorem l5Begin_any {h wd k : Nat} (h1 : 1 ≤ h) (hh : h ≤ 6) (hw : wd ≤ 6) (h9 : h * wd ≤ 9) (PP : Nat → List (Nat × (Nat → Nat → Nat))) (RR : Nat → Nat → List (Nat × (Nat → Nat → Nat))) (hIH : FilOk h wd k) (r : Nat) (z : Nat → Nat → Nat) (x : Nat × Nat) (HN : ∀ u t, u < runF wd z x.1 x.2 → t ≤ h - x.1 → (PP u).length ≤ 1000000 ∧ (RR u t).length ≤ 1000000) (po : Option Addr) (pc : Nat) (w : World)
    (I : FilI h wd r z) (hfr : freeC wd z h ≤ k + 1) (hx : fstF h wd z = some x) (hT : TxtB w po (txtZ h wd z))
    (HP0 : PP 0 = []) (HR0 : ∀ u, RR u 0 = []) (HPS : ∀ u, PP (u + 1) = PP u ++ RR u (h - x.1)) (HRS : ∀ u t, RR u (t + 1) = RR u t ++ fillZ h wd k (r + 1) (putZ z x.1 x.2 (t + 1) (u + 1) (r + 1))) :
    Calls Try.prog 104 #[.slice po h pc, .int .i64 (r : Int), .int .i64 (x.1 : Int), .int .i64 (x.2 : Int)] w
      fun e w' => PlnRet w w' (lstT h wd (PP (runF wd z x.1 x.2))) e ∧ Below w.heap.size w w' := by
  obtain ⟨it, hti0, htz, ht1, ht2⟩ := info_parts Try.infoStrs
  obtain ⟨x1, x2, x3, _⟩ := fstF_some hx
  have hrun := runF_le (z := z) (i := x.1) x2
  have hr9 := I.room hx
  obtain ⟨rs, rb⟩ := row_txt (wd := wd) (z := z) x1
  have HDOT := Lib.hid (fun j (hj : j < wd) => show (byZ (z x.1 j) == 46) = (z x.1 j == 0) from byZ_dot (by have := I.le x.1 j x1 hj; omega))
  have HFREE := Lib.hid (fun a (ha : a < runF wd z x.1 x.2) => show z x.1 (x.2 + a) = 0 from runZ_free z x.1 (wd - x.2) x.2 a ha)
  have HEND := Lib.hid (fun (he : runF wd z x.1 x.2 < wd - x.2) => show z x.1 (x.2 + runF wd z x.1 x.2) ≠ 0 from runZ_end z x.1 (wd - x.2) x.2 he)
  have HST := Lib.hid (fun (u t : Nat) (hu : u < runF wd z x.1 x.2) (ht : t < h - x.1) => I.step hx hu ht)
  have HPUT := Lib.hid (fun (hi wi : Nat) => put_txt h1 z x.1 x.2 hi wi r (wd := wd))
  have HL1 := Lib.hid (fun (row col hi wi : Nat) (c : UInt8) (W : World) a b (hc : CellsAt W po ((txtZ h wd z).map Value.string)) => by
    have q := l1Put_any po pc (txtZ h wd z) row col hi wi c W (by rw [txtZ_len]; exact h1) (by rw [txtZ_len]; exact hh) (by unfold txtZ; rw [matB_wide h1]; exact hw) (matB_even h1) (by rw [txtZ_len]; exact a) (by unfold txtZ; rw [matB_wide h1]; exact b) hc
    rw [txtZ_len] at q; exact q)
  have HB := Lib.hid rb
  have HTX := Lib.hid hT
  have hlit : CellsAt w po ((txtZ h wd z).map Value.string) := hT.cells
  clear hx I hT rb
  generalize hrn : runF wd z x.1 x.2 = run at *
  clear hrn
  obtain ⟨xi, xj⟩ := x
  simp only at x1 x2 x3 hrun rs HPS HRS HST HPUT HN
  have hr0 : (w.alloc (.cells #[] 23)).ownsRow w.heap.size 23 1 (.slice (some ⟨w.heap.size, 0, none⟩) 0 0) 0 [] := World.ownsRow_made w #[] 0 (Nat.le_refl _) (Nat.zero_le _) rfl
  have hb0 := below_alloc w (.cells #[] 23)
  have hre : ((r : Int) == 9) = false := by rw [beq_eq_false_iff_ne]; omega
  go_enter Try.func104, Try.ntmps104
  go_wp2
  have hst0 : PlansV (w.alloc (.cells #[] 23)) [] (lstT h wd (PP 0)) := by rw [HP0]; exact PlansV.nil _
  have hr00 : (w.alloc (.cells #[] 23)).ownsRow w.heap.size 23 1 (.slice (some ⟨w.heap.size, 0, none⟩) (PP 0).length 0) (PP 0).length [] := by rw [HP0]; exact hr0
  have HPL := Lib.hid (show (PP 0).length = 0 by rw [HP0]; rfl)
  have HPS2 := Lib.hid HPS; have HRS2 := Lib.hid HRS; have HR02 := Lib.hid HR0; have HNN := Lib.hid HN
  obtain ⟨s, hs⟩ : ∃ s, (txtZ h wd z).getD xi ByteArray.empty = s := ⟨_, rfl⟩
  have HSTR := Lib.hid (fun (W : World) (hb : Below w.heap.size w W) => by
    have q := (HTX.out.below hb).cells.str xi (by rw [txtZ_len]; exact x1)
    rw [hs] at q; exact q)
  rw [hs] at rs
  have HB2 := Lib.hid (fun j (hj : j < wd) => show s.data.toList.getD j 0 = byZ (z xi j) by rw [← hs]; exact HB.out j hj)
  have HRSZ := Lib.hid rs
  clear hr0 HP0 HPS HRS HR0 HN hs HB rs hlit
  generalize w.alloc (.cells #[] 23) = W0 at *
  go_loopw [9, 10] (fun vo vu wr => ∃ (u g c : Nat) (us : List Value), u ≤ run ∧ vu = .int .i64 ((u : Int) + 1) ∧ vo = .slice (some ⟨g, 0, none⟩) (PP u).length c ∧ wr.ownsRow w.heap.size 23 1 (.slice (some ⟨g, 0, none⟩) (PP u).length c) (PP u).length us ∧ PlansV wr us (lstT h wd (PP u)) ∧ Below w.heap.size w wr) (fun _ vu _ => run + 1 - (intOf vu).toNat)
  case atStart => exact ⟨0, _, _, [], Nat.zero_le _, rfl, by rw [HPL.out], hr00, hst0, hb0⟩
  case round =>
    clear hst0 hr00 hb0 HPL
    obtain ⟨u, g, c, us, hu, rfl, rfl, hrow, hpl, hb⟩ := hrel
    obtain ⟨b0, o0, rfl, hcs⟩ := HSTR.out wr hb
    have hz9 := HRSZ.out
    have HROW := Lib.hid hrow; have HPLV := Lib.hid hpl
    clear hrow hpl
    by_cases hlt : u < run
    · have h1a : decide ((xj : Int) + ((u : Int) + 1) ≤ (s.size : Int)) = true := by rw [decide_eq_true_eq]; omega
      have hk1 : (xj : Int) + ((u : Int) + 1) - 1 = ((xj + u : Nat) : Int) := by omega
      have hks : xj + u < s.size := by omega
      have x1' : s[xj + u] = 46 := by rw [at_list s (xj + u) hks, HB2.out (xj + u) (by omega), HFREE.out u hlt]; rfl
      have HZ9 := Lib.hid hz9
      clear hz9
      go_wp2
      have HR0u := Lib.hid (show (PP u ++ RR u 0).length = (PP u).length by rw [HR02.out, List.append_nil])
      have hrow0 : wr.ownsRow w.heap.size 23 1 (.slice (some ⟨g, 0, none⟩) (PP u ++ RR u 0).length c) (PP u ++ RR u 0).length us := by rw [HR0u.out]; exact HROW.out
      have hpl0 : PlansV wr us (lstT h wd (PP u ++ RR u 0)) := by rw [HR02.out, List.append_nil]; exact HPLV.out
      obtain ⟨hn, hhn⟩ : ∃ hn, hn = h - xi := ⟨_, rfl⟩
      have hhx : xi + hn = h := by omega
      rw [← hhn] at HPS2 HST HNN
      clear hhn
      go_loopw [9, 11] (fun vo vt wq => ∃ (t g c : Nat) (us : List Value), t ≤ hn ∧ vt = .int .i64 ((t : Int) + 1) ∧ vo = .slice (some ⟨g, 0, none⟩) (PP u ++ RR u t).length c ∧ wq.ownsRow w.heap.size 23 1 (.slice (some ⟨g, 0, none⟩) (PP u ++ RR u t).length c) (PP u ++ RR u t).length us ∧ PlansV wq us (lstT h wd (PP u ++ RR u t)) ∧ Below w.heap.size w wq) (fun _ vt _ => hn + 1 - (intOf vt).toNat)
      case atStart => exact ⟨0, g, c, us, Nat.zero_le _, rfl, by rw [HR0u.out], hrow0, hpl0, hb⟩
      case round =>
        clear hrow0 hpl0 hb HROW HPLV hcs
        obtain ⟨t, g, c, us, ht, rfl, rfl, hrow, hpl, hb⟩ := hrel
        obtain ⟨wq, rfl⟩ : ∃ wq, wq = wr := ⟨_, rfl⟩
        have hnl := (HNN.out u t hlt ht)
        by_cases htl : t < hn
        · have htl' : decide ((xi : Int) + ((t : Int) + 1) ≤ (h : Int)) = true := by rw [decide_eq_true_eq]; omega
          obtain ⟨I2, hf2⟩ := HST.out u t hlt htl
          have hla := HL1.out xi xj (t + 1) (u + 1) (UInt8.ofNat (97 + r)) wq (by omega) (by omega) (HTX.out.below hb).cells
          rw [HPUT.out (t + 1) (u + 1)] at hla
          have hbt : (((UInt8.ofNat (97 + r)).toNat : Nat) : Int) = 97 + (r : Int) := by rw [UInt8.toNat_ofNat', Nat.mod_eq_of_lt (by omega)]; omega
          rw [hbt, show ((t + 1 : Nat) : Int) = (t : Int) + 1 from rfl, show ((u + 1 : Nat) : Int) = (u : Int) + 1 from rfl] at hla
          have HLA := Lib.hid hla
          have HF := Lib.hid (fun po pc W hl hT => hIH (r + 1) (putZ z xi xj (t + 1) (u + 1) (r + 1)) po pc W I2 (by omega) hl hT)
          have HE := Lib.hid (HRS2.out u t)
          have hnl2 := (HNN.out u (t + 1) hlt htl).2
          obtain ⟨nn, hnn⟩ : ∃ nn, (PP u ++ RR u t).length = nn := ⟨_, rfl⟩
          have hnb : nn ≤ 2000000 := by rw [← hnn, List.length_append]; omega
          rw [hnn] at hrow
          have HROW := Lib.hid hrow; have HPLV := Lib.hid hpl
          have hr9' : r ≤ 8 := by omega
          clear hla hbt I2 hf2 hrow hpl
          generalize hz' : putZ z xi xj (t + 1) (u + 1) (r + 1) = z' at *
          clear hz'
          obtain ⟨K, hK⟩ : ∃ K, fillZ h wd k (r + 1) z' = K := ⟨_, rfl⟩
          rw [hK] at HE HF
          have hkb : K.length ≤ 1000000 := by
            have e := congrArg List.length HE.out
            rw [List.length_append] at e
            omega
          have HEL := Lib.hid (show (PP u ++ RR u (t + 1)).length = nn + K.length by rw [HE.out, ← List.append_assoc, List.length_append, hnn])
          have HEP := Lib.hid (show lstT h wd (PP u ++ RR u (t + 1)) = lstT h wd (PP u ++ RR u t) ++ lstT h wd K by rw [HE.out, ← List.append_assoc, lstT_append])
          rw [hnn]
          have HNE := Lib.hid hnn
          clear hnn hnl2 hnl
          have HKE := Lib.hid hK
          clear hK
          go_wp2_with fail
          refine HLA.out.mono ?_
          rintro e w5 ⟨ro, rc, rfl, ow, hb5⟩
          have hT5 := TxtB.of ow (show 0 < h from h1)
          have hr5 := ownsRow_below HROW.out hb5
          have hp5 := HPLV.out.below hb5
          have hB5 : Below w.heap.size w w5 := below_step hb hb.size hb5
          clear ow HLA HPLV HROW
          go_wp2_with fail
          refine (HF.out _ _ _ hkb hT5).mono ?_
          rintro e w6 ⟨⟨g6, c6, us6, rfl, hrow6, hpl6⟩, hb6⟩
          have hr6 := ownsRow_below hr5 hb6
          have hp6 := hp5.below hb6
          have hB6 : Below w.heap.size w w6 := below_step hB5 hB5.size hb6
          rw [lstT_len] at hrow6
          obtain ⟨-, hc6, -⟩ := own_at hrow6
          obtain ⟨⟨cur, hcur⟩, -, hgb⟩ := own_at hr6
          have hsz := hB6.size
          have hu6 : us6.length = K.length := by rw [hpl6.1, lstT_len]
          have hpo := hpl6.ones
          rw [lstT_len]
          generalize hKL : K.length = m at *
          clear hr5 hp5 HF hT5 hb5 hb6 hB5
          go_wp2_with (at_builtin; refine wpList_pushS _ rfl (.tmp 47) (.tmp 59) 63 rfl w.heap.size 23 it _ 24 (by kernel_rfl) hti0 htz ht1 ht2 rfl g nn c us rfl hr6 us6 m g6 c6 rfl hu6 hc6 hpo (by unfold maxLen; omega) (by omega) hsz ?_; intro g' cap' w7 hr7 hg7)
          refine ⟨⟨t + 1, g', cap', us ++ us6, by omega, by go_num, by rw [HEL.out], by rw [HEL.out]; exact hr7, ?_, ?_⟩, by simp [intOf]; omega⟩
          · rw [HEP.out]
            exact (hp6.grown hg7 hcur).append (hpl6.grown hg7 hcur)
          · exact hB6.trans (below_of_grownBy hg7 hsz (fun k hk => by simp only [Option.some.injEq] at hk; omega))
        · have htl' : decide ((xi : Int) + ((t : Int) + 1) ≤ (h : Int)) = false := by rw [decide_eq_false_iff_not]; omega
          obtain rfl : t = hn := by omega
          rw [← HPS2.out u] at hrow hpl
          have HLE := Lib.hid (show (PP u ++ RR u t).length = (PP (u + 1)).length by rw [HPS2.out u])
          go_wp2
          go_roundw
          case rel => exact ⟨u + 1, g, c, us, by omega, by go_num, by rw [HLE.out], hrow, hpl, hb⟩
          case measure => simp [intOf]; omega
    · obtain rfl : u = run := by omega
      by_cases hro : xj + (u + 1) ≤ wd
      · have h1a : decide ((xj : Int) + ((u : Int) + 1) ≤ (s.size : Int)) = true := by rw [decide_eq_true_eq]; omega
        have hk1 : (xj : Int) + ((u : Int) + 1) - 1 = ((xj + u : Nat) : Int) := by omega
        have hks : xj + u < s.size := by omega
        have hne := HEND.out (by omega)
        have x1' := (at_list s (xj + u) hks).trans (HB2.out (xj + u) (by omega))
        have hd := HDOT.out (xj + u) (by omega)
        have h0 : (z xi (xj + u) == 0) = false := by rw [beq_eq_false_iff_ne]; exact hne
        rw [h0, beq_eq_false_iff_ne] at hd
        have hb46 : (((byZ (z xi (xj + u))).toNat : Int) == 46) = false := by
          rw [beq_eq_false_iff_ne]
          intro e
          refine hd (UInt8.toNat_inj.1 ?_)
          show (byZ (z xi (xj + u))).toNat = 46
          omega
        have HZ9 := Lib.hid hz9
        clear hz9 h0 hd hne
        generalize byZ (z xi (xj + u)) = cc at *
        go_wp2
        go_ret
        exact ⟨⟨g, c, us, by rw [lstT_len]; rfl, by rw [lstT_len]; exact HROW.out, HPLV.out⟩, hb⟩
      · have h1a : decide ((xj : Int) + ((u : Int) + 1) ≤ (s.size : Int)) = false := by rw [decide_eq_false_iff_not]; omega
        have HZ9 := Lib.hid hz9
        clear hz9
        go_wp2
        go_ret
        exact ⟨⟨g, c, us, by rw [lstT_len]; rfl, by rw [lstT_len]; exact HROW.out, HPLV.out⟩, hb⟩
end Go.Proofs.Ytpgcpmfemcfoaaa
