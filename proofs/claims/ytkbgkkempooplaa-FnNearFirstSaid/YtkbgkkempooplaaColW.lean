
/-
  Merged texts: Col ColS ColT ColI ColR ColW.
-/
import Derived.Test.YtkbgkkempooplaaRow
import Derived.Test.YtkbgkkempooplaaBfsW
import Derived.Test.YtkbgkkempooplaaBfsF
import Derived.Maps.AppendAt
import Derived.Deep.Cut
import Derived.BigQuiet
import Derived.Laws.EntriesVeiled

/-
  Colours so that no two neighbours have one: the first list, the least number. (Plain mathematics.)
-/
namespace Go.Proofs.Ytkbgkkempooplaa
open Go.RowKit

/-- whether a colour fits the room behind those that have one -/
def fitC (near : Nat → Nat → Bool) (C : List Nat) (c : Nat) : Bool := (List.range C.length).all fun b => !(C.getD b 0 == c && near C.length b)
/-- the first list that begins so -/
def colS (near : Nat → Nat → Bool) (many : Nat) : Nat → List Nat → Option (List Nat)
  | 0, C => some C
  | k + 1, C => (List.range many).findSome? fun c => if fitC near C c then colS near many k (C ++ [c]) else none
/-- what comes of a colour for the next room -/
def colF (near : Nat → Nat → Bool) (many k : Nat) (C : List Nat) (c : Nat) : Option (List Nat) := if fitC near C c then colS near many k (C ++ [c]) else none
theorem colS_succ (near : Nat → Nat → Bool) (many k : Nat) (C : List Nat) : colS near many (k + 1) C = (List.range many).findSome? (colF near many k C) := rfl
theorem colF_no {near : Nat → Nat → Bool} {many k : Nat} {C : List Nat} {c : Nat} (h : fitC near C c = false) : colF near many k C c = none := by unfold colF; rw [h]; rfl
theorem colF_yes {near : Nat → Nat → Bool} {many k : Nat} {C : List Nat} {c : Nat} (h : fitC near C c = true) : colF near many k C c = colS near many k (C ++ [c]) := by unfold colF; rw [h]; rfl

theorem fs_none {F : Nat → Option (List Nat)} : ∀ {m : Nat}, (∀ j, j < m → F j = none) → (List.range m).findSome? F = none
  | m, h => by
    rw [List.findSome?_eq_none_iff]
    exact fun x hx => h x (List.mem_range.1 hx)
theorem fs_some {F : Nat → Option (List Nat)} {m c : Nat} {o : List Nat} (h : ∀ j, j < c → F j = none) (hc : c < m) (ho : F c = some o) : (List.range m).findSome? F = some o := by
  obtain ⟨d, rfl⟩ : ∃ d, m = c + 1 + d := ⟨m - c - 1, by omega⟩
  induction d with
  | zero => rw [Nat.add_zero, List.range_succ, List.findSome?_append, fs_none h]; simp [ho]
  | succ d ih =>
    rw [show c + 1 + (d + 1) = (c + 1 + d) + 1 by omega, List.range_succ, List.findSome?_append, ih (by omega)]; rfl

/-- a list of colours that is as asked -/
def ValC (near : Nat → Nat → Bool) (many : Nat) (L : List Nat) : Prop := ∀ a, a < L.length → L.getD a 0 < many ∧ ∀ b, b < a → near a b = true → L.getD a 0 ≠ L.getD b 0

theorem getD_snocL {C : List Nat} {c a : Nat} (h : a < C.length) : (C ++ [c]).getD a 0 = C.getD a 0 := by
  rw [List.getD_eq_getElem?_getD, List.getElem?_append_left h, ← List.getD_eq_getElem?_getD]
theorem getD_snocR (C : List Nat) (c : Nat) : (C ++ [c]).getD C.length 0 = c := by
  rw [List.getD_eq_getElem?_getD, List.getElem?_append_right (Nat.le_refl _), Nat.sub_self]; rfl
theorem fitC_iff {near : Nat → Nat → Bool} {C : List Nat} {c : Nat} : fitC near C c = true ↔ ∀ b, b < C.length → near C.length b = true → C.getD b 0 ≠ c := by
  unfold fitC
  rw [List.all_eq_true]
  constructor
  · intro h b hb hn he
    have := h b (List.mem_range.2 hb)
    rw [hn, he] at this
    simp at this
  · intro h b hb
    have := h b (List.mem_range.1 hb)
    cases hn : near C.length b
    · simp
    · simpa using this hn
theorem ValC.snoc {near : Nat → Nat → Bool} {many : Nat} {C : List Nat} {c : Nat} (h : ValC near many C) (hc : c < many) (hf : fitC near C c = true) : ValC near many (C ++ [c]) := fun a ha => by
  rw [List.length_append] at ha
  rcases Nat.lt_or_ge a C.length with h' | h'
  · rw [getD_snocL h']
    refine ⟨(h a h').1, fun b hb hn => ?_⟩
    rw [getD_snocL (by omega)]
    exact (h a h').2 b hb hn
  · obtain rfl : a = C.length := by simp at ha; omega
    rw [getD_snocR]
    refine ⟨hc, fun b hb hn => ?_⟩
    rw [getD_snocL hb]
    exact (fitC_iff.1 hf b hb hn).symm
theorem ValC.pre {near : Nat → Nat → Bool} {many : Nat} {C r : List Nat} (h : ValC near many (C ++ r)) : ValC near many C := fun a ha => by
  have hg : ∀ b, b < C.length → (C ++ r).getD b 0 = C.getD b 0 := fun b hb => by rw [List.getD_eq_getElem?_getD, List.getElem?_append_left hb, ← List.getD_eq_getElem?_getD]
  have := h a (by rw [List.length_append]; omega)
  rw [hg a ha] at this
  refine ⟨this.1, fun b hb hn => ?_⟩
  rw [← hg b (by omega)]
  exact this.2 b hb hn

theorem colS_sound {near : Nat → Nat → Bool} {many : Nat} : ∀ (k : Nat) {C L : List Nat}, ValC near many C → colS near many k C = some L → ValC near many L ∧ L.length = C.length + k ∧ ∃ r, L = C ++ r
  | 0, C, L, h, he => by
    have : C = L := by simpa [colS] using he
    subst this
    exact ⟨h, rfl, [], by simp⟩
  | k + 1, C, L, h, he => by
    rw [colS_succ, List.findSome?_eq_some_iff] at he
    obtain ⟨l1, c, l2, hl, hF, _⟩ := he
    have hc : c < many := by
      have : c ∈ List.range many := by rw [hl]; simp
      exact List.mem_range.1 this
    cases hf : fitC near C c
    · rw [colF_no hf] at hF; cases hF
    · rw [colF_yes hf] at hF
      obtain ⟨v, hlen, r, hr⟩ := colS_sound k (h.snoc hc hf) hF
      refine ⟨v, by rw [hlen, List.length_append]; simp; omega, c :: r, by rw [hr, List.append_assoc]; rfl⟩
theorem colS_complete {near : Nat → Nat → Bool} {many : Nat} : ∀ (k : Nat) {C L : List Nat}, ValC near many L → L.length = C.length + k → (∃ r, L = C ++ r) → (colS near many k C).isSome = true
  | 0, C, L, _, _, _ => rfl
  | k + 1, C, L, h, hlen, hr => by
    obtain ⟨r, rfl⟩ := hr
    cases r with
    | nil => simp at hlen
    | cons c r =>
      have h' : ValC near many (C ++ [c] ++ r) := by rw [List.append_assoc]; exact h
      have hv := h'.pre
      have hlast := hv C.length (by simp)
      rw [getD_snocR] at hlast
      have hf : fitC near C c = true := fitC_iff.2 fun b hb hn => by
        have := hlast.2 b hb hn
        rw [getD_snocL hb] at this
        exact this.symm
      have ih := colS_complete k (C := C ++ [c]) h' (by rw [List.length_append, List.length_append]; simp at hlen ⊢; omega) ⟨r, rfl⟩
      rw [colS_succ]
      cases hs : (List.range many).findSome? (colF near many k C) with
      | some x => rfl
      | none =>
        exfalso
        rw [List.findSome?_eq_none_iff] at hs
        have := hs c (List.mem_range.2 hlast.1)
        rw [colF_yes hf] at this
        rw [this] at ih
        cases ih

/-- as many colours as rooms are enough -/
theorem colS_all {near : Nat → Nat → Bool} (n : Nat) : (colS near n n []).isSome = true := by
  refine colS_complete n (L := List.range n) (fun a ha => ?_) (by simp) ⟨List.range n, rfl⟩
  have hg : ∀ i, i < n → (List.range n).getD i 0 = i := fun i hi => by rw [List.getD_eq_getElem?_getD, List.getElem?_range hi]; rfl
  rw [List.length_range] at ha
  rw [hg a ha]
  exact ⟨ha, fun b hb _ => by rw [hg b (by omega)]; omega⟩

/-- the least number of colours, from a number on, and its list -/
def lstC (f : Nat → Option (List Nat)) : Nat → Nat → Nat × List Nat
  | 0, m => (m, [])
  | k + 1, m => match f m with
    | some L => (m, L)
    | none => lstC f k (m + 1)
theorem lstC_no {f : Nat → Option (List Nat)} {k m : Nat} (h : f m = none) : lstC f (k + 1) m = lstC f k (m + 1) := by
  show (match f m with | some L => (m, L) | none => lstC f k (m + 1)) = _
  rw [h]
theorem lstC_yes {f : Nat → Option (List Nat)} {k m : Nat} {L : List Nat} (h : f m = some L) : lstC f (k + 1) m = (m, L) := by
  show (match f m with | some L => (m, L) | none => lstC f k (m + 1)) = _
  rw [h]
theorem lstC_is {f : Nat → Option (List Nat)} : ∀ (k m : Nat), (f (m + k)).isSome = true → ∃ j, m ≤ j ∧ j ≤ m + k ∧ (lstC f (k + 1) m).1 = j ∧ f j = some (lstC f (k + 1) m).2 ∧ ∀ i, m ≤ i → i < j → f i = none
  | 0, m, h => by
    cases hf : f m with
    | none => rw [Nat.add_zero, hf] at h; cases h
    | some L => rw [lstC_yes hf]; exact ⟨m, Nat.le_refl _, by omega, rfl, hf, fun i h1 h2 => by omega⟩
  | k + 1, m, h => by
    cases hf : f m with
    | some L => rw [lstC_yes hf]; exact ⟨m, Nat.le_refl _, by omega, rfl, hf, fun i h1 h2 => by omega⟩
    | none =>
      rw [lstC_no hf]
      obtain ⟨j, h1, h2, h3, h4, h5⟩ := lstC_is k (m + 1) (by rw [show m + 1 + k = m + (k + 1) by omega]; exact h)
      refine ⟨j, by omega, by omega, h3, h4, fun i hi hij => ?_⟩
      by_cases he : i = m
      · subst he; exact hf
      · exact h5 i (by omega) hij
/-- of so many rooms -/
def leastC (near : Nat → Nat → Bool) (n : Nat) : Nat × List Nat := lstC (fun m => colS near m n []) n 1
theorem leastC_is {near : Nat → Nat → Bool} {n : Nat} (hn : 0 < n) : 1 ≤ (leastC near n).1 ∧ (leastC near n).1 ≤ n ∧ colS near (leastC near n).1 n [] = some (leastC near n).2 ∧ ∀ i, 1 ≤ i → i < (leastC near n).1 → colS near i n [] = none := by
  obtain ⟨k, rfl⟩ : ∃ k, n = k + 1 := ⟨n - 1, by omega⟩
  obtain ⟨j, h1, h2, h3, h4, h5⟩ := lstC_is (f := fun m => colS near m (k + 1) []) k 1 (by rw [Nat.add_comm]; exact colS_all (k + 1))
  unfold leastC
  rw [h3]
  exact ⟨h1, by omega, h4, h5⟩
theorem leastC_val {near : Nat → Nat → Bool} {n : Nat} (hn : 0 < n) : ValC near (leastC near n).1 (leastC near n).2 ∧ (leastC near n).2.length = n := by
  obtain ⟨_, _, h, _⟩ := leastC_is (near := near) hn
  obtain ⟨v, hl, _⟩ := colS_sound n (C := []) (fun a ha => by simp at ha) h
  exact ⟨v, by simpa using hl⟩
/-- fewer colours are not enough -/
theorem leastC_le {near : Nat → Nat → Bool} {n m : Nat} (hn : 0 < n) {L : List Nat} (hv : ValC near m L) (hl : L.length = n) : (leastC near n).1 ≤ m := by
  obtain ⟨_, _, _, h⟩ := leastC_is (near := near) hn
  have hm : 1 ≤ m := by have := (hv 0 (by omega)).1; omega
  refine Nat.le_of_not_lt fun hlt => ?_
  have := h m hm hlt
  have h2 := colS_complete (near := near) n (C := []) hv (by simpa using hl) ⟨L, rfl⟩
  rw [this] at h2; cases h2
theorem leastC_eq {near : Nat → Nat → Bool} {n m : Nat} {L : List Nat} (hn : 0 < n) (h1 : 1 ≤ m) (h : ∀ i, 1 ≤ i → i < m → colS near i n [] = none) (hL : colS near m n [] = some L) : leastC near n = (m, L) := by
  obtain ⟨k1, k2, k3, k4⟩ := leastC_is (near := near) hn
  have e : (leastC near n).1 = m := by
    rcases Nat.lt_trichotomy (leastC near n).1 m with hlt | he | hgt
    · have := h _ k1 hlt
      rw [k3] at this; cases this
    · exact he
    · have := k4 m h1 hgt
      rw [hL] at this; cases this
  have e2 : (leastC near n).2 = L := by
    rw [e, hL] at k3
    exact (Option.some.inj k3).symm
  exact Prod.ext e e2
/-- the greatest colour is one less than their number -/
theorem leastC_max {near : Nat → Nat → Bool} {n : Nat} (hn : 0 < n) : (∀ a, a < n → (leastC near n).2.getD a 0 + 1 ≤ (leastC near n).1) ∧ ∃ a, a < n ∧ (leastC near n).2.getD a 0 + 1 = (leastC near n).1 := by
  obtain ⟨v, hl⟩ := leastC_val (near := near) hn
  refine ⟨fun a ha => (v a (by omega)).1, Classical.byContradiction fun hno => ?_⟩
  obtain ⟨h1, _⟩ := leastC_is (near := near) hn
  have hall : ValC near ((leastC near n).1 - 1) (leastC near n).2 := fun a ha => by
    have h2 := v a ha
    refine ⟨?_, h2.2⟩
    have : (leastC near n).2.getD a 0 + 1 ≠ (leastC near n).1 := fun he => hno ⟨a, by omega, he⟩
    omega
  have := leastC_le hn hall hl
  omega
end Go.Proofs.Ytkbgkkempooplaa

/-
  The first colours of rooms: the model's answers. (Walks.)
-/
namespace Go.Proofs.Ytkbgkkempooplaa
open Go.RowKit

/-- whether two rooms are neighbours -/
def nearB (p : List ByteArray) (a b : Nat) : Bool := decide (0 < besN p (a : Int) (b : Int))
def fitN (near : Nat → Nat → Bool) (C : List Nat) (c b : Nat) : Bool := (List.range b).all fun b => !(C.getD b 0 == c && near C.length b)
theorem fitN_all (near : Nat → Nat → Bool) (C : List Nat) (c : Nat) : fitN near C c C.length = fitC near C c := rfl
theorem fitN_succ (near : Nat → Nat → Bool) (C : List Nat) (c b : Nat) : fitN near C c (b + 1) = (fitN near C c b && !(C.getD b 0 == c && near C.length b)) := by
  unfold fitN; rw [List.range_succ, List.all_append]; simp
theorem intsN_one (L : List Nat) : ∀ v ∈ intsN L, v.oneCell' = true := fun v hv => by
  obtain ⟨_, _, rfl⟩ := List.mem_map.1 hv; rfl

/-- numbers are put behind numbers of the call's own -/
theorem wpList_pushM {P : Program} (w : World) {ops : Array Oper} {rest : List Oper} {o : Oper} {a : Act} {Q : Exit → Act → World → Prop} (hgd : o.guard = none) (s x : Operand) (t : TypeId)
    (ho : o.op = .call { callee := .builtin .append, args := #[s, x], argTypes := #[t, t] })
    (base : Nat) (e : TypeId) (i : TypeInfo) (z : Value) (bytes : Nat) (ht : P.underlying t = some (.slice e)) (hi : P.info? e = some i) (hz : i.zero = some z)
    (hsize : i.size = 1) (hby : i.bytes = bytes) (hzs : z.cells.size = 1) (ao : Option Addr) (n cap : Nat) (xs : List Value) (hs : a.eval s = .slice ao n cap) (hown : w.ownsRow base e 1 (.slice ao n cap) n xs)
    (us : List Value) (m N : Nat) (hN : n + m = N) (g off c : Nat) (hx : a.eval x = .slice (some ⟨g, off, none⟩) m c) (hl : us.length = m) (hu : CellsAt w (some ⟨g, off, none⟩) us) (h1 : ∀ v ∈ us, v.oneCell' = true) (h63 : n + m ≤ maxLen) (hbytes : (n + m) * bytes ≤ 140737488355328) (hbase : base ≤ w.heap.size)
    (h : ∀ ao' cap' w', w'.ownsRow base e 1 (.slice ao' N cap') N (xs ++ us) → w.grownBy w' (Value.ownBlock (.slice ao n cap)) → wpList P ops Q rest (a.put o.dst (.slice ao' N cap')) w') : wpList P ops Q (o :: rest) a w := by
  subst hN
  have hu' : ∀ j v, us[j]? = some v → w.cell? ⟨g, off + j, none⟩ = some v := fun j v hj => by
    obtain ⟨b', off', e, hc⟩ := hu j v hj
    cases e
    exact hc
  refine Go.wpList_append_own_at w hgd s x t ho base e i z 1 bytes ht hi hz hsize hby hzs (by decide) _ n xs hs hown ⟨g, off, none⟩ m c us hx (by omega) (fun j u hj => by rw [← hu' j u hj, Addr.add_lit]) h1 h63 hbytes hbase ?_
  intro v' w' hown' hg _ _
  obtain ⟨ao', cap', rfl, _, _⟩ := ownsRow_cells hown'
  exact h ao' cap' w' hown' hg

/-- what comes back: a list of the call's own, and whether there is one -/
def ColRet (base : Nat) (o : Option (List Nat)) (e : Ending) (w' : World) : Prop :=
  ∃ g rc, e = .returned (.tuple #[.slice (some ⟨g, 0, none⟩) (o.getD []).length rc, .bool o.isSome]) ∧ w'.ownsRow base 3 1 (.slice (some ⟨g, 0, none⟩) (o.getD []).length rc) (o.getD []).length (intsN (o.getD []))

set_option maxRecDepth 100000 in
set_option maxHeartbeats 8000000 in
theorem l4Colour_any (ao : Option Addr) (cap : Nat) (p : List ByteArray) (many : Nat) (hp : planB p = true) (hm : many ≤ 9) (hl : p.length ≤ 1048576) (hs : ∀ s ∈ p, s.size ≤ 1048576) :
    ∀ (k : Nat) (C : List Nat) (base g cc : Nat) (w : World), C.length + k = gridR p → base ≤ w.heap.size → CellsAt w ao (p.map Value.string) → w.ownsRow base 3 1 (.slice (some ⟨g, 0, none⟩) C.length cc) C.length (intsN C) →
    Calls Try.prog 65 #[.slice ao p.length cap, .slice (some ⟨g, 0, none⟩) C.length cc, .int .i64 many] w
      fun e w' => ColRet base (colS (nearB p) many k C) e w' ∧ Below w.heap.size w w'
  | 0, C, base, g, cc, w, hCk, hbw, hc, hown => by
    have HR := Lib.hid (fun w c => l1Rooms_any ao cap p w hl hs c)
    rw [(planP_of hp).rooms] at HR
    have hn : C.length = gridR p := hCk
    have hceq : ((C.length : Int) == (gridR p : Int)) = true := by rw [beq_iff_eq]; omega
    show Calls _ _ _ _ fun e w' => ColRet base (some C) e w' ∧ _
    have HE := Lib.hid hown
    generalize gridR p = n at *
    clear hown hCk
    have HN := Lib.hid hn
    clear hn
    go_enter Try.func65, Try.ntmps65
    go_wp2_with fail
    refine (HR.out _ hc).mono ?_
    rintro e w2 ⟨rfl, hww⟩
    subst hww
    go_wp2
    go_ret2
    exact ⟨⟨g, cc, rfl, HE.out⟩, Below.refl _ _⟩
  | k + 1, C, base, g, cc, w, hCk, hbw, hc, hown => by
    obtain ⟨it, hti0, htz, ht1, ht2⟩ := info_parts Try.infoNum
    have HIH := Lib.hid (fun (C : List Nat) (base g cc : Nat) (w : World) h1 h2 h3 h4 => l4Colour_any ao cap p many hp hm hl hs k C base g cc w h1 h2 h3 h4)
    have HR := Lib.hid (fun w c => l1Rooms_any ao cap p w hl hs c)
    rw [(planP_of hp).rooms] at HR
    have hg := (planP_of hp).grid
    have h9 := (planP_of hp).few
    have HB := Lib.hid (fun (a b : Nat) w c => l4Beside_any ao cap _ p (a : Int) (b : Int) w rfl hg c)
    have HNB := Lib.hid (fun a b => show nearB p a b = decide (0 < besN p (a : Int) (b : Int)) from rfl)
    have hceq : ((C.length : Int) == (gridR p : Int)) = false := by rw [beq_eq_false_iff_ne]; omega
    have HFS := Lib.hid (fun c (h : ∀ j, j < c → colF (nearB p) many k C j = none) => show (c < many → ∀ o, colF (nearB p) many k C c = some o → colS (nearB p) many (k + 1) C = some o) from fun hc o ho => by rw [colS_succ]; exact fs_some h hc ho)
    have HFN := Lib.hid (fun (h : ∀ j, j < many → colF (nearB p) many k C j = none) => show colS (nearB p) many (k + 1) C = none by rw [colS_succ]; exact fs_none h)
    have HC := Lib.hid hc
    have HO := Lib.hid hown
    have hC9 : C.length + 1 ≤ 9 := by omega
    have HCK := Lib.hid (show C.length + 1 + k = gridR p by omega)
    clear hp hl hs hg hc hown hCk
    generalize gridR p = n at *
    generalize hnr : nearB p = near at *
    clear hnr
    go_enter Try.func65, Try.ntmps65
    go_wp2_with fail
    refine (HR.out _ HC.out).mono ?_
    rintro e w2 ⟨rfl, hww⟩
    subst hww
    clear HR
    go_wp2
    go_loopw [9] (fun vc wr => ∃ c : Nat, c ≤ many ∧ vc = .int .i64 c ∧ Hid (∀ j, j < c → colF near many k C j = none) ∧ Below w2.heap.size w2 wr) (fun vc _ => many - (intOf vc).toNat)
    case atStart => exact ⟨0, Nat.zero_le _, rfl, Lib.hid (fun j hj => absurd hj (Nat.not_lt_zero _)), Below.refl _ _⟩
    case round =>
      obtain ⟨c, hcm, rfl, HPRE, hb⟩ := hrel
      by_cases hlt : c < many
      · have hlt' : decide ((c : Int) < (many : Int)) = true := by rw [decide_eq_true_eq]; omega
        go_wp2
        go_loopw [10, 11] (fun vo vb wm => ∃ b : Nat, b ≤ C.length ∧ vb = .int .i64 b ∧ vo = .bool (fitN near C c b) ∧ Below w2.heap.size w2 wm) (fun _ vb _ => C.length - (intOf vb).toNat)
        case atStart => exact ⟨0, Nat.zero_le _, rfl, rfl, hb⟩
        case round =>
          clear hb
          obtain ⟨b, hbn, rfl, rfl, hb⟩ := hrel
          by_cases hbl : b < C.length
          · have hbl' : decide ((b : Int) < (C.length : Int)) = true := by rw [decide_eq_true_eq]; omega
            have HSU := Lib.hid (fitN_succ near C c b)
            have hcr := HC.out.below hb
            have hcc := (owns_cells (ownsRow_below HO.out hb)) b _ (intsN_at hbl)
            obtain ⟨g', o', he, hcb⟩ := hcc
            simp only [Option.some.injEq, Addr.mk.injEq, and_true] at he
            obtain ⟨rfl, rfl⟩ := he
            have hcb0 : wr.cell? ⟨g, b, none⟩ = some (.int .i64 ((C.getD b 0 : Nat) : Int)) := by rw [← hcb]; congr 2; omega
            clear hcb
            have HNB2 := Lib.hid (HNB.out C.length b)
            cases hfo : fitN near C c b
            · rw [hfo, Bool.false_and] at HSU
              generalize C.getD b 0 = x at *
              go_wp2
              go_roundw
              case rel => exact ⟨b + 1, by omega, by go_num, by rw [HSU.out], hb⟩
              case measure => simp [intOf]; omega
            · rw [hfo, Bool.true_and] at HSU
              generalize C.getD b 0 = x at *
              by_cases hxc : x = c
              · have hxd : (x == c) = true := by rw [beq_iff_eq]; exact hxc
                rw [hxd, Bool.true_and] at HSU
                have hne : decide ((x : Int) ≠ (c : Int)) = false := by rw [decide_eq_false_iff_not]; omega
                subst hxc
                clear hxd hne
                go_wp2_with fail
                refine (HB.out _ _ _ hcr).mono ?_
                rintro e w3 ⟨rfl, hb3⟩
                have hb4 := below_step hb hb.size hb3
                cases hnn : near C.length b
                · have hz := HNB2.out
                  rw [hnn, eq_comm, decide_eq_false_iff_not] at hz
                  have hz0 : besN p ((C.length : Nat) : Int) (b : Int) = 0 := by omega
                  rw [hnn] at HSU
                  rw [hz0]
                  clear hz hz0 hnn HNB2
                  go_wp2
                  go_roundw
                  case rel => exact ⟨b + 1, by omega, by go_num, by rw [HSU.out]; rfl, hb4⟩
                  case measure => simp [intOf]; omega
                · have hz := HNB2.out
                  rw [hnn, eq_comm, decide_eq_true_eq] at hz
                  have hzz : ((besN p ((C.length : Nat) : Int) (b : Int) : Int) == 0) = false := by rw [beq_eq_false_iff_ne]; omega
                  rw [hnn] at HSU
                  generalize besN p ((C.length : Nat) : Int) (b : Int) = B at *
                  clear hnn HNB2
                  go_wp2
                  go_roundw
                  case rel => exact ⟨b + 1, by omega, by go_num, by rw [HSU.out]; rfl, hb4⟩
                  case measure => simp [intOf]; omega
              · have hxd : (x == c) = false := by rw [beq_eq_false_iff_ne]; exact hxc
                rw [hxd, Bool.false_and] at HSU
                have hne : ((x : Int) == (c : Int)) = false := by rw [beq_eq_false_iff_ne]; omega
                clear hxd
                go_wp2
                go_roundw
                case rel => exact ⟨b + 1, by omega, by go_num, by rw [HSU.out]; rfl, hb⟩
                case measure => simp [intOf]; omega
          · have hbl' : decide ((b : Int) < (C.length : Int)) = false := by rw [decide_eq_false_iff_not]; omega
            obtain rfl : b = C.length := by omega
            rw [fitN_all]
            cases hfc : fitC near C c
            · have HP2 := Lib.hid (show ∀ j, j < c + 1 → colF near many k C j = none from rows_step HPRE.out (colF_no hfc))
              clear hfc
              go_wp2
              go_roundw
              case rel => exact ⟨c + 1, by omega, by go_num, HP2, hb⟩
              case measure => simp [intOf]; omega
            · have HCF := Lib.hid (colF_yes (many := many) (k := k) hfc)
              have hcr := HC.out.below hb
              have hon := ownsRow_below HO.out hb
              have hcl := owns_cells hon
              have hbs := hb.size
              have hr0 : (wr.alloc (.cells #[] 3)).ownsRow wr.heap.size 3 1 (.slice (some ⟨wr.heap.size, 0, none⟩) 0 0) 0 [] := World.ownsRow_made wr #[] 0 (Nat.le_refl _) (Nat.zero_le _) rfl
              have hcl1 := hcl.below (below_alloc wr (.cells #[] 3))
              have hb1' : 0 + C.length ≤ maxLen := by unfold maxLen; omega
              have hb2' : (0 + C.length) * 8 ≤ 140737488355328 := by omega
              have hb3' : C.length + 1 ≤ maxLen := by unfold maxLen; omega
              have hb4' : (C.length + 1) * 8 ≤ 140737488355328 := by omega
              have hc1 : CellsAt (wr.alloc (.cells #[] 3)) ao (p.map Value.string) := hcr.below (below_alloc wr _)
              have HIL := Lib.hid (intsN_len C)
              clear hfc hcl hon hcr
              go_upto_region 14 with (first
                | (at_builtin; refine wpList_pushM _ rfl (.tmp 50) (.tmp 51) 30 rfl wr.heap.size 3 it (.int .i64 0) 8 Try.underlying30 hti0 htz ht1 ht2 rfl _ 0 0 _ rfl hr0 _ C.length C.length (Nat.zero_add _) g 0 cc rfl HIL.out hcl1 (intsN_one C) hb1' hb2' (by simp) ?_; intro ro2 rc2 w4 hrow2 hg2; rw [List.nil_append] at hrow2; have hz4 := hg2.size; rw [World.size_alloc] at hz4)
                | (at_builtin; refine wpList_push _ rfl (.tmp 52) (.tmp 54) 30 rfl wr.heap.size 3 it (.int .i64 0) 8 Try.underlying30 hti0 htz ht1 ht2 rfl ro2 C.length rc2 _ rfl (hrow2.alloc _) _ _ _ rfl (cell_new _ _ _) rfl hb3' hb4' (by simp; omega) ?_; intro ro3 rc3 w5 hrow3 hg3 hnew3; rw [← intsN_snoc] at hrow3))
              have hw4 : Below wr.heap.size wr w4 := (below_alloc wr _).trans (below_of_grownBy hg2 (by simp) (fun k hk => by simp only [Value.ownBlock, Option.some.injEq] at hk; omega))
              have hw5 : Below wr.heap.size wr w5 := below_push hw4 hw4.size hg3 (fun a ha => (owns_lt hrow2 a ha).1)
              have hb5 := below_step hb hbs hw5
              obtain ⟨g3, rfl⟩ : ∃ g3, ro3 = some ⟨g3, 0, none⟩ := by
                rcases hrow3.2 with ⟨h, h0⟩ | ⟨g, c, cur, h, _⟩
                · omega
                · simp only [Value.slice.injEq] at h; exact ⟨g, h.1⟩
              have hel : (C ++ [c]).length = C.length + 1 := by simp
              have HI := HIH.out (C ++ [c]) base g3 rc3 w5 (by rw [hel]; exact HCK.out) (Nat.le_trans hbw hb5.size) (HC.out.below hb5) (by rw [hel]; exact ownsRow_base hrow3 (Nat.le_trans hbw hbs))
              rw [hel] at HI
              clear hrow2 hrow3 hg2 hg3 hnew3 hw4 hw5 hel hz4 hr0 hcl1 hc1
              refine HI.mono ?_
              rintro e w6 ⟨⟨g6, rc6, rfl, hrow6⟩, hb6⟩
              have hb7 := below_step hb5 hb5.size hb6
              cases hres : colS near many k (C ++ [c]) with
              | none =>
                rw [hres] at HCF
                have HP2 := Lib.hid (show ∀ j, j < c + 1 → colF near many k C j = none from rows_step HPRE.out HCF.out)
                clear HI hrow6 hres
                go_wp2
                go_roundw
                case rel => exact ⟨c + 1, by omega, by go_num, HP2, hb7⟩
                case measure => simp [intOf]; omega
              | some L =>
                rw [hres] at HCF hrow6
                have HFI := Lib.hid (HFS.out c HPRE.out hlt _ HCF.out)
                have HRW := Lib.hid hrow6
                clear HI hrow6 hres
                go_wp2
                go_ret2
                rw [HFI.out]
                exact ⟨⟨g6, rc6, rfl, HRW.out⟩, hb7⟩
      · have hlt' : decide ((c : Int) < (many : Int)) = false := by rw [decide_eq_false_iff_not]; omega
        obtain rfl : c = many := by omega
        have HN := Lib.hid (HFN.out HPRE.out)
        go_wp2
        go_ret2
        rw [HN.out]
        exact ⟨⟨wr.heap.size, 0, rfl, World.ownsRow_made wr #[] 0 (Nat.le_trans hbw hb.size) (Nat.zero_le _) rfl⟩, below_step hb hb.size (below_alloc _ _)⟩

end Go.Proofs.Ytkbgkkempooplaa

/-
  The least number of colours, and the first list: the model's answers. (Walks.)
-/
namespace Go.Proofs.Ytkbgkkempooplaa
open Go.RowKit

theorem gridR_pos {p : List ByteArray} (h : planB p = true) : 0 < gridR p := by
  have hg := (planP_of h).grid
  have := grid_room h (i := 0) (j := 0) (by have := hg.h1; omega) (by have := hg.w1; omega)
  omega
/-- the least number of colours, and the first list -/
def leastP (p : List ByteArray) : Nat × List Nat := leastC (nearB p) (gridR p)
theorem leastP_len {p : List ByteArray} (h : planB p = true) : (leastP p).2.length = gridR p := (leastC_val (gridR_pos h)).2
theorem leastP_le {p : List ByteArray} (h : planB p = true) : 1 ≤ (leastP p).1 ∧ (leastP p).1 ≤ 9 := by
  have := leastC_is (near := nearB p) (gridR_pos h)
  have h9 := (planP_of h).few
  exact ⟨this.1, Nat.le_trans this.2.1 h9⟩

set_option maxRecDepth 100000 in
set_option maxHeartbeats 2000000 in
theorem l4Least_any (ao : Option Addr) (cap : Nat) (p : List ByteArray) (w : World) (hp : planB p = true) (hl : p.length ≤ 1048576) (hs : ∀ s ∈ p, s.size ≤ 1048576) (hc : CellsAt w ao (p.map Value.string)) :
    Calls Try.prog 40 #[.slice ao p.length cap] w
      fun e w' => ∃ ro rc, e = .returned (.tuple #[.int .i64 ((leastP p).1 : Nat), .slice ro (leastP p).2.length rc]) ∧ w'.ownsRow w.heap.size 3 1 (.slice ro (leastP p).2.length rc) (leastP p).2.length (intsN (leastP p).2) ∧ Below w.heap.size w w' := by
  have HCO := Lib.hid (fun (m : Nat) (hm : m ≤ gridR p) (base g cc : Nat) (w : World) h2 h3 h4 => l4Colour_any ao cap p m hp (Nat.le_trans hm (planP_of hp).few) hl hs (gridR p) [] base g cc w (Nat.zero_add _) h2 h3 h4)
  have HEQ := Lib.hid (fun m L h1 h h2 => show leastP p = (m, L) from leastC_eq (gridR_pos hp) h1 h h2)
  have HAL := Lib.hid (colS_all (near := nearB p) (gridR p))
  have hpos := gridR_pos hp
  have h9 := (planP_of hp).few
  have HC := Lib.hid hc
  generalize leastP p = LP at *
  generalize nearB p = near at *
  generalize gridR p = n at *
  clear hp hl hs
  generalize hf : (fun m => colS near m n []) = F at *
  have HF := Lib.hid (show ∀ m, colS near m n [] = F m by rw [← hf]; exact fun _ => rfl)
  have HCO2 := Lib.hid (fun m hm (w0 : World) (W : World) (hb : Below w0.heap.size w0 W) (hc : CellsAt W ao (p.map Value.string)) => show Calls Try.prog 65 #[.slice ao p.length cap, .slice (some ⟨W.heap.size, 0, none⟩) 0 0, .int .i64 (m : Nat)] (W.alloc (.cells #[] 3)) fun e w' => ColRet w0.heap.size (F m) e w' ∧ Below W.heap.size W w' by
    have h1 : (W.alloc (.cells #[] 3)).ownsRow w0.heap.size 3 1 (.slice (some ⟨W.heap.size, 0, none⟩) 0 0) 0 [] := World.ownsRow_made W #[] 0 hb.size (Nat.zero_le _) rfl
    have := HCO.out m hm w0.heap.size W.heap.size 0 (W.alloc (.cells #[] 3)) (by have := hb.size; simp; omega) (hc.below (below_alloc W _)) h1
    rw [HF.out] at this
    refine this.mono ?_
    rintro e w' ⟨q1, q2⟩
    exact ⟨q1, (below_alloc W _).trans (q2.mono (by simp))⟩)
  have HEQ2 := Lib.hid (fun (m : Nat) (L : List Nat) (h1 : 1 ≤ m) (h : ∀ i, 1 ≤ i → i < m → F i = none) (h2 : F m = some L) => HEQ.out m L h1 (fun i a b => by rw [HF.out]; exact h i a b) (by rw [HF.out]; exact h2))
  have HAL2 := Lib.hid (show (F n).isSome = true by rw [← HF.out]; exact HAL.out)
  clear HCO HEQ HAL HF hf
  have hn1 : (1 : Nat) ≤ n := hpos
  have H1 := Lib.hid (HCO2.out 1 hn1 w w (Below.refl _ _) hc)
  go_enter Try.func40, Try.ntmps40
  go_wp2_with fail
  refine (H1.out).mono ?_
  rintro e w1 ⟨⟨g, rc, rfl, hrow⟩, hb1⟩
  clear H1
  have HR0 := Lib.hid hrow
  clear hrow hc
  go_wp2
  go_loopw [4, 5, 6] (fun vm vl vo wr => ∃ m g rc : Nat, 1 ≤ m ∧ m ≤ n ∧ Hid (∀ i, 1 ≤ i → i < m → F i = none) ∧ vm = .int .i64 m ∧ vl = .slice (some ⟨g, 0, none⟩) ((F m).getD []).length rc ∧ vo = .bool (F m).isSome ∧ Hid (wr.ownsRow w.heap.size 3 1 (.slice (some ⟨g, 0, none⟩) ((F m).getD []).length rc) ((F m).getD []).length (intsN ((F m).getD []))) ∧ Below w.heap.size w wr) (fun vm _ _ _ => n - (intOf vm).toNat)
  case atStart => exact ⟨1, g, rc, Nat.le_refl _, hn1, Lib.hid (fun i h1 h2 => by omega), rfl, rfl, rfl, HR0, hb1⟩
  case round =>
    clear hb1 HR0
    obtain ⟨m, g, rc, hm1, hmn, HPRE, rfl, rfl, rfl, HR, hb⟩ := hrel
    cases hres : F m with
    | none =>
      have hmn2 : m + 1 ≤ n := by
        refine Nat.lt_of_le_of_ne hmn fun he => ?_
        subst he
        have := HAL2.out
        rw [hres] at this; cases this
      have HP2 := Lib.hid (show ∀ i, 1 ≤ i → i < m + 1 → F i = none from fun i h1 h2 => by
        rcases Nat.lt_succ_iff_lt_or_eq.1 h2 with h' | rfl
        · exact HPRE.out i h1 h'
        · exact hres)
      have H2 := Lib.hid (HCO2.out (m + 1) hmn2 w wr hb (HC.out.below hb))
      clear HR hres
      go_wp2_with fail
      refine (H2.out).mono ?_
      rintro e w4 ⟨⟨g4, rc4, rfl, hrow4⟩, hb4⟩
      have HR4 := Lib.hid hrow4
      have hb5 := below_step hb hb.size hb4
      clear H2 hrow4
      go_wp2
      go_roundw
      case rel => exact ⟨m + 1, g4, rc4, by omega, hmn2, HP2, by go_num, rfl, rfl, HR4, hb5⟩
      case measure => simp [intOf]; omega
    | some L =>
      have HE := Lib.hid (HEQ2.out m L hm1 HPRE.out hres)
      rw [hres] at HR
      clear hres
      go_wp2
      go_ret2
      rw [HE.out]
      exact ⟨_, _, rfl, HR.out, hb⟩

set_option maxRecDepth 100000 in
theorem specNearFirst_any (ao : Option Addr) (cap : Nat) (p : List ByteArray) (w : World) (hl : p.length ≤ 1048576) (hs : ∀ s ∈ p, s.size ≤ 1048576) (hc : CellsAt w ao (p.map Value.string)) :
    Calls Try.prog 22 #[.slice ao p.length cap] w
      fun e w' => (∃ ro rc, e = .returned (.tuple #[.slice ro (if planB p then (leastP p).2 else []).length rc, .bool (planB p)]) ∧ w'.ownsRow w.heap.size 3 1 (.slice ro (if planB p then (leastP p).2 else []).length rc) (if planB p then (leastP p).2 else []).length (intsN (if planB p then (leastP p).2 else []))) ∧ Below w.heap.size w w' := by
  have HP := Lib.hid (fun w c => specPlanIn_any ao cap p w hl hs c)
  cases hp : planB p
  · rw [hp] at HP
    rw [if_neg (by decide)]
    go_enter Try.func22, Try.ntmps22
    go_wp2_with fail
    refine (HP.out _ hc).mono ?_
    rintro e w1 ⟨rfl, hb1⟩
    go_wp2
    go_ret2
    exact ⟨⟨_, _, rfl, World.ownsRow_made w1 #[] 0 hb1.size (Nat.zero_le _) rfl⟩, below_step hb1 hb1.size (below_alloc _ _)⟩
  · have HL := Lib.hid (fun w c => l4Least_any ao cap p w hp hl hs c)
    rw [hp] at HP
    rw [if_pos rfl]
    clear hp
    generalize leastP p = L at *
    go_enter Try.func22, Try.ntmps22
    go_wp2_with fail
    refine (HP.out _ hc).mono ?_
    rintro e w1 ⟨rfl, hb1⟩
    have c1 := hc.below hb1
    go_wp2_with fail
    refine (HL.out _ c1).mono ?_
    rintro e w2 ⟨ro, rc, rfl, ow, hb2⟩
    go_wp2
    go_ret2
    exact ⟨⟨_, _, rfl, ownsRow_base ow hb1.size⟩, below_step hb1 hb1.size hb2⟩

def colsN (p : List ByteArray) : Nat := if planB p then (leastP p).1 else 0

end Go.Proofs.Ytkbgkkempooplaa

/-
  Whether a room has a neighbour of a colour: the program's answer. (Walks.)
-/
namespace Go.Proofs.Ytkbgkkempooplaa
open Go.RowKit

/-- whether a neighbour has a colour -/
def hasC (C : List Nat) (c x : Nat) : Bool := decide (x < C.length) && (C.getD x 0 == c)

set_option maxRecDepth 100000 in
set_option maxHeartbeats 1000000 in
theorem meets1_any (Q x mx c U V : Nat) (ro : Option Addr) (rc : Nat) (C : List Nat) (w : World) (_hl : C.length ≤ 1000) (hx : w.cell? ⟨Q + x, 0, none⟩ = some (.int .i64 (x : Nat)))
    (hu : w.cell? ⟨U, 0, none⟩ = some (.slice ro C.length rc)) (hv : w.cell? ⟨V, 0, none⟩ = some (.int .i64 (c : Nat))) (hc : CellsAt w ro (intsN C)) :
    Calls Try.prog 89 #[.agg (lnkC1 Q (x, mx)).toArray, .pointer (some ⟨U, 0, none⟩), .pointer (some ⟨V, 0, none⟩)] w
      fun e w' => e = .returned (.bool (hasC C c x)) ∧ Below w.heap.size w w' := by
  have hB := HeldB.new w 53 (lnkC1 Q (x, mx)).toArray
  have c0 : (w.alloc (.cells (lnkC1 Q (x, mx)).toArray 53)).cell? ⟨w.heap.size, 0, none⟩ = some (.pointer (some ⟨Q + x, 0, none⟩)) := (hB.cell 0).trans rfl
  have hbl := below_alloc w (.cells (lnkC1 Q (x, mx)).toArray 53)
  have cx := cell_below hx hbl
  have cu := cell_below hu hbl
  have cv := cell_below hv hbl
  have hc2 := hc.below hbl
  clear hx hu hv hc hB
  by_cases hlt : x < C.length
  · have hlt' : decide ((x : Int) < (C.length : Int)) = true := by rw [decide_eq_true_eq]; omega
    have hr : hasC C c x = (C.getD x 0 == c) := by unfold hasC; rw [decide_eq_true hlt, Bool.true_and]
    rw [hr]
    obtain ⟨g, off, rfl, hcb⟩ := hc2 x _ (intsN_at hlt)
    have hxi : (x : Int) < (C.length : Int) := by omega
    have HEQ := Lib.hid (show ((C.getD x 0 : Nat) == c) = (((C.getD x 0 : Nat) : Int) == (c : Int)) by rw [Bool.eq_iff_iff, beq_iff_eq, beq_iff_eq]; omega)
    rw [HEQ.out]
    clear hc2 hr
    generalize C.getD x 0 = y at *
    go_enter Try.func89, Try.ntmps89
    go_wp2
    go_quiet (fail)
    go_wp2
    go_ret
    exact ⟨rfl, hbl.trans (below_drewN _ _ _)⟩
  · have hlt' : decide ((x : Int) < (C.length : Int)) = false := by rw [decide_eq_false_iff_not]; omega
    have hr : hasC C c x = false := by unfold hasC; rw [decide_eq_false hlt, Bool.false_and]
    rw [hr]
    clear hc2 hr
    go_enter Try.func89, Try.ntmps89
    go_wp2
    go_quiet (fail)
    go_wp2
    go_ret
    exact ⟨rfl, hbl.trans (below_drewN _ _ _)⟩

set_option maxRecDepth 100000 in
set_option maxHeartbeats 2000000 in
theorem indexLnk_any (Q c U V : Nat) (so : Option Addr) (sc : Nat) (L : List (Nat × Nat)) (ro : Option Addr) (rc : Nat) (C : List Nat) (w : World) (hl : C.length ≤ 1000) (hL : L.length ≤ 1000) (hrw : CellsAt w so (lnkC Q L)) (hrm : rms w Q L)
    (hu : w.cell? ⟨U, 0, none⟩ = some (.slice ro C.length rc)) (hv : w.cell? ⟨V, 0, none⟩ = some (.int .i64 (c : Nat))) (hc : CellsAt w ro (intsN C)) :
    Calls Try.prog 97 #[.slice so L.length sc, .func (.func 89) #[] #[.pointer (some ⟨U, 0, none⟩), .pointer (some ⟨V, 0, none⟩)]] w
      fun e w' => (∃ v : Int, e = .returned (.int .i64 v) ∧ decide (0 ≤ v) = L.any fun x => hasC C c x.1) ∧ Below w.heap.size w w' := by
  have HCU := Lib.hid (fun (x mx : Nat) (W : World) (hb : Below w.heap.size w W) (hx : (x, mx) ∈ L) => meets1_any Q x mx c U V ro rc C W hl (cell_below (hrm _ hx) hb) (cell_below hu hb) (cell_below hv hb) (hc.below hb))
  have eg := enters_of Try.func89 (by kernel_rfl) rfl
  have HRW := Lib.hid hrw
  have HAN := Lib.hid (show ∀ i, i < L.length → hasC C c (L.getD i (0, 0)).1 = true → (L.any fun x => hasC C c x.1) = true from fun i hi h => List.any_eq_true.2 ⟨_, getD_mem (0, 0) hi, h⟩)
  have HAF := Lib.hid (show (∀ j, j < L.length → hasC C c (L.getD j (0, 0)).1 = false) → (L.any fun x => hasC C c x.1) = false from fun h => by
    rw [List.any_eq_false]
    intro x hx
    obtain ⟨j, hj, rfl⟩ := List.mem_iff_getElem.1 hx
    have := h j hj
    rw [List.getD_eq_getElem?_getD, List.getElem?_eq_getElem hj, Option.getD_some] at this
    rw [this]; decide)
  have HIN := Lib.hid (fun (i : Nat) (hi : i < L.length) => (getD_mem (0, 0) hi : L.getD i (0, 0) ∈ L))
  generalize (L.any fun x => hasC C c x.1) = R at *
  generalize hasC C c = f at *
  clear hrm hu hv hc hrw
  go_enter Try.func97, Try.ntmps97
  go_wp2
  go_loopw [8] (fun vi wr => ∃ i : Nat, i ≤ L.length ∧ vi = .int .i64 i ∧ Hid (∀ j, j < i → f (L.getD j (0, 0)).1 = false) ∧ Below w.heap.size w wr) (fun vi _ => L.length - (intOf vi).toNat)
  case atStart => exact ⟨0, Nat.zero_le _, rfl, Lib.hid (fun j hj => absurd hj (Nat.not_lt_zero _)), Below.refl _ _⟩
  case round =>
    obtain ⟨i, hi, rfl, HF, hq⟩ := hrel
    by_cases hlt : i < L.length
    · have hlt' : decide ((i : Int) < (L.length : Int)) = true := by rw [decide_eq_true_eq]; omega
      obtain ⟨bb, off, rfl, hrg⟩ := lnk_range (HRW.out.below hq) hlt
      have HY := Lib.hid (HAN.out i hlt)
      have HXI := Lib.hid (HIN.out i hlt)
      have HNX := Lib.hid (show f (L.getD i (0, 0)).1 = false → ∀ j, j < i + 1 → f (L.getD j (0, 0)).1 = false from fun h j hj => by
        rcases Nat.lt_succ_iff_lt_or_eq.1 hj with h' | rfl
        · exact HF.out j h'
        · exact h)
      have HRG := Lib.hid hrg
      clear hrg
      obtain ⟨X, hX⟩ : ∃ X, L.getD i (0, 0) = X := ⟨_, rfl⟩
      rw [hX] at HY HXI HNX HRG
      clear hX
      obtain ⟨x, mx⟩ := X
      simp only at HY HNX
      have HCX := Lib.hid (HCU.out x mx _ hq HXI.out)
      cases hfx : f x
      · have HE := Lib.hid (HNX.out hfx)
        rw [hfx] at HCX
        go_wp2_with (first
          | (refine wpList_load_mid rfl 53 _ rfl bb (off + i * 2) rfl (lnkC1 Q (x, mx)) _ HRG.out Try.underlying53 rfl Try.sizeLnk ?_)
          | (go_at_call 89; refine (HCX.out).mono ?_; rintro e w3 ⟨rfl, hb3⟩))
        go_roundw
        case rel => exact ⟨i + 1, by omega, by go_num, HE, below_step hq hq.size hb3⟩
        case measure => simp [intOf]; omega
      · have HE := Lib.hid (HY.out hfx)
        rw [hfx] at HCX
        go_wp2_with (first
          | (refine wpList_load_mid rfl 53 _ rfl bb (off + i * 2) rfl (lnkC1 Q (x, mx)) _ HRG.out Try.underlying53 rfl Try.sizeLnk ?_)
          | (go_at_call 89; refine (HCX.out).mono ?_; rintro e w3 ⟨rfl, hb3⟩))
        go_ret
        exact ⟨⟨_, rfl, by rw [HE.out]; simp⟩, below_step hq hq.size hb3⟩
    · obtain rfl : i = L.length := by omega
      have hlt' : decide ((L.length : Int) < (L.length : Int)) = false := by rw [decide_eq_false_iff_not]; omega
      go_wp2
      go_ret
      exact ⟨⟨_, rfl, by rw [HAF.out HF.out]; rfl⟩, hq⟩

set_option maxRecDepth 100000 in
set_option maxHeartbeats 1000000 in
theorem containsLnk_any (Q c U V : Nat) (so : Option Addr) (sc : Nat) (L : List (Nat × Nat)) (ro : Option Addr) (rc : Nat) (C : List Nat) (w : World) (hl : C.length ≤ 1000) (hL : L.length ≤ 1000) (hrw : CellsAt w so (lnkC Q L)) (hrm : rms w Q L)
    (hu : w.cell? ⟨U, 0, none⟩ = some (.slice ro C.length rc)) (hv : w.cell? ⟨V, 0, none⟩ = some (.int .i64 (c : Nat))) (hc : CellsAt w ro (intsN C)) :
    Calls Try.prog 88 #[.slice so L.length sc, .func (.func 89) #[] #[.pointer (some ⟨U, 0, none⟩), .pointer (some ⟨V, 0, none⟩)]] w
      fun e w' => e = .returned (.bool (L.any fun x => hasC C c x.1)) ∧ Below w.heap.size w w' := by
  have HI := Lib.hid (indexLnk_any Q c U V so sc L ro rc C w hl hL hrw hrm hu hv hc)
  generalize (L.any fun x => hasC C c x.1) = R at *
  clear hrw hrm hu hv hc
  go_enter Try.func88, Try.ntmps88
  go_wp2_with (go_at_call 97; refine (HI.out).mono ?_; rintro e w1 ⟨⟨v, rfl, hv⟩, hb1⟩)
  go_ret
  exact ⟨by rw [← hv]; rfl, hb1⟩

/-- the neighbours of the next room have a colour just if it does not fit -/
theorem hasC_fit (f : Nat → Nat → Nat) (near : Nat → Nat → Bool) (hn : ∀ a b, near a b = decide (0 < f a b)) {n : Nat} {C : List Nat} (h : C.length ≤ n) (c : Nat) : ((lnk n (f C.length)).any fun x => hasC C c x.1) = !fitC near C c := by
  cases hf : fitC near C c
  · rw [Bool.not_false, List.any_eq_true]
    unfold fitC at hf
    rw [List.all_eq_false] at hf
    obtain ⟨b, hb, h1⟩ := hf
    have hb := List.mem_range.1 hb
    simp only [Bool.not_eq_true', Bool.not_eq_false, Bool.and_eq_true, beq_iff_eq] at h1
    refine ⟨(b, f C.length b), ?_, ?_⟩
    · unfold lnk lnkL
      refine List.mem_map.2 ⟨b, List.mem_filter.2 ⟨List.mem_range.2 (by omega), ?_⟩, rfl⟩
      rw [← hn]; exact h1.2
    · unfold hasC
      rw [decide_eq_true hb, Bool.true_and, beq_iff_eq]; exact h1.1
  · rw [Bool.not_true, List.any_eq_false]
    intro x hx
    obtain ⟨h1, h2, _⟩ := lnk_mem hx
    unfold hasC
    by_cases hb : x.1 < C.length
    · rw [decide_eq_true hb, Bool.true_and, beq_iff_eq]
      exact fitC_iff.1 hf x.1 hb (by rw [hn, decide_eq_true_eq]; exact h2)
    · rw [decide_eq_false hb, Bool.false_and]; decide

set_option maxRecDepth 100000 in
set_option maxHeartbeats 1000000 in
theorem meets_any (Q n c : Nat) (f : Nat → Nat → Nat) (near : Nat → Nat → Bool) (hn : ∀ a b, near a b = decide (0 < f a b)) (K : Nat → Prop) (so : Nat → Option Addr) (sc : Nat → Nat) (ro : Option Addr) (rc : Nat) (C : List Nat) (w : World) (h9 : n ≤ 9) (hC : C.length < n) (h : ChB w Q n f K so sc) (hc : CellsAt w ro (intsN C)) :
    Calls Try.prog 78 #[.pointer (some ⟨Q + C.length, 0, none⟩), .int .i64 c, .slice ro C.length rc] w
      fun e w' => e = .returned (.bool (!fitC near C c)) ∧ Below w.heap.size w w' := by
  have h1 := below_alloc w (.cells #[.int .i64 (c : Nat)] 3)
  have h2 := below_alloc (w.alloc (.cells #[.int .i64 (c : Nat)] 3)) (.cells #[.slice ro C.length rc] 30)
  have hb : Below w.heap.size w ((w.alloc (.cells #[.int .i64 (c : Nat)] 3)).alloc (.cells #[.slice ro C.length rc] 30)) := h1.trans (h2.mono (by simp))
  have hv := (HeldB.new w 3 #[.int .i64 (c : Nat)]).alloc (.cells #[.slice ro C.length rc] 30)
  have hu := HeldB.new (w.alloc (.cells #[.int .i64 (c : Nat)] 3)) 30 #[.slice ro C.length rc]
  rw [World.size_alloc] at hu
  have hcl : ((w.alloc (.cells #[.int .i64 (c : Nat)] 3)).alloc (.cells #[.slice ro C.length rc] 30)).cell? ⟨Q + C.length, 1, none⟩ = some (.slice (so C.length) (lnk n (f C.length)).length (sc C.length)) := ((h.below hb).1 C.length hC).cell 1
  have hln := lnk_len n (f C.length)
  have HCO := Lib.hid (containsLnk_any Q c (w.heap.size + 1) w.heap.size (so C.length) (sc C.length) (lnk n (f C.length)) ro rc C _ (by omega) (by omega) (ownsK_cells ((h.below hb).2.1 C.length hC)) ((h.below hb).rms C.length) (hu.cell 0) (hv.cell 0) (hc.below hb))
  rw [hasC_fit f near hn (by omega)] at HCO
  clear h1 h2 hv hu h hc
  have hsz : ((w.alloc (.cells #[.int .i64 (c : Nat)] 3)).alloc (.cells #[.slice ro C.length rc] 30)).heap.size = w.heap.size + 1 + 1 := by simp
  generalize (lnk n (f C.length)).length = l at *
  generalize so C.length = s at *
  generalize sc C.length = t at *
  generalize fitC near C c = R at *
  go_enter Try.func78, Try.ntmps78
  go_wp2_with (go_at_call 88; refine (HCO.out).mono ?_; rintro e w1 ⟨rfl, hb1⟩)
  go_ret
  exact ⟨rfl, hb.trans (hb1.mono (by omega))⟩
end Go.Proofs.Ytkbgkkempooplaa

/-
  The first colours of rooms: the program's answers. (Walks: a closure that calls itself.)
-/
namespace Go.Proofs.Ytkbgkkempooplaa
open Go.RowKit

theorem owns_cut {w : World} {base g cc m : Nat} {e : TypeId} {xs : List Value} {x : Value} (h : w.ownsRow base e 1 (.slice (some ⟨g, 0, none⟩) (m + 1) cc) (m + 1) (xs ++ [x])) : w.ownsRow base e 1 (.slice (some ⟨g, 0, none⟩) m cc) m xs := by
  obtain ⟨hl, h2⟩ := h
  have hxl : xs.length = m := by simpa using hl
  refine ⟨by omega, ?_⟩
  rcases h2 with ⟨hv, _⟩ | ⟨g', cap, cur, hv, hb, hg, hn, hc, hs, ht⟩
  · cases hv
  · simp only [Value.slice.injEq, Option.some.injEq, Addr.mk.injEq, and_true, true_and] at hv
    obtain ⟨rfl, rfl⟩ := hv
    refine .inr ⟨g, cc, cur, rfl, hb, hg, by omega, hc, hs, ?_⟩
    have : (cur.toList.take ((m + 1) * 1)).take (m * 1) = (xs ++ [x]).take m := by rw [ht, Nat.mul_one]
    rw [List.take_take, Nat.min_eq_left (by omega)] at this
    rw [this, List.take_left' hxl]

/-- what lies in memory while rooms get their colours -/
structure StP (w : World) (U T M Fn Rb n c many : Nat) (C : List Nat) (g cc : Nat) (wr : World) : Prop where
  u : HeldB wr U 30 #[.slice (some ⟨g, 0, none⟩) C.length cc]
  t : HeldB wr T 41 #[.slice (some ⟨Rb, 0, none⟩) n c]
  m : HeldB wr M 3 #[.int .i64 (many : Nat)]
  fn : HeldB wr Fn 102 #[.func (.func 77) #[] #[.pointer (some ⟨U, 0, none⟩), .pointer (some ⟨T, 0, none⟩), .pointer (some ⟨M, 0, none⟩), .pointer (some ⟨Fn, 0, none⟩)]]
  row : wr.ownsRow w.heap.size 3 1 (.slice (some ⟨g, 0, none⟩) C.length cc) C.length (intsN C)
  ne : g ≠ U ∧ g ≠ T ∧ g ≠ M ∧ g ≠ Fn
  neu : T ≠ U ∧ M ≠ U ∧ Fn ≠ U ∧ w.heap.size ≤ U
  below : Below w.heap.size w wr
theorem StP.step {w wr w' : World} {U T M Fn Rb n c many g cc : Nat} {C : List Nat} (h : StP w U T M Fn Rb n c many C g cc wr) (hb : Below wr.heap.size wr w') : StP w U T M Fn Rb n c many C g cc w' :=
  ⟨h.u.below hb, h.t.below hb, h.m.below hb, h.fn.below hb, ownsRow_below h.row hb, h.ne, h.neu, below_step h.below h.below.size hb⟩

set_option maxRecDepth 100000 in
set_option maxHeartbeats 8000000 in
theorem colourRest_any (Q n c Rb many U T M Fn : Nat) (f : Nat → Nat → Nat) (near : Nat → Nat → Bool) (hn : ∀ a b, near a b = decide (0 < f a b)) (K : Nat → Prop) (so : Nat → Option Addr) (sc : Nat → Nat) (w : World) (h9 : n ≤ 9) (hm : many ≤ 9)
    (h : ChB w Q n f K so sc) (hp : CellsAt w (some ⟨Rb, 0, none⟩) (ptrs Q n)) :
    ∀ (k : Nat) (C : List Nat) (g cc : Nat) (wr : World), C.length + k = n → StP w U T M Fn Rb n c many C g cc wr →
    Calls Try.prog 77 #[.pointer (some ⟨U, 0, none⟩), .pointer (some ⟨T, 0, none⟩), .pointer (some ⟨M, 0, none⟩), .pointer (some ⟨Fn, 0, none⟩)] wr
      fun e w' => e = .returned (.bool (colS near many k C).isSome) ∧ ∃ g' cc', StP w U T M Fn Rb n c many ((colS near many k C).getD C) g' cc' w'
  | 0, C, g, cc, wr, hCk, hst => by
    have cu := hst.u.cell 0
    have ct := hst.t.cell 0
    have cu0 : wr.cell? ⟨U, 0, none⟩ = some (.slice (some ⟨g, 0, none⟩) C.length cc) := cu
    have ct0 : wr.cell? ⟨T, 0, none⟩ = some (.slice (some ⟨Rb, 0, none⟩) n c) := ct
    have HST := Lib.hid hst
    have heq : ((C.length : Int) == (n : Int)) = true := by rw [beq_iff_eq]; omega
    have HCK := Lib.hid hCk
    clear hst cu ct hCk h hp hn
    show Calls _ _ _ _ fun e w' => e = .returned (.bool true) ∧ ∃ g' cc', StP w U T M Fn Rb n c many C g' cc' w'
    go_enter Try.func77, Try.ntmps77
    go_wp2
    go_ret
    exact ⟨rfl, g, cc, HST.out⟩
  | k + 1, C, g, cc, wr, hCk, hst => by
    obtain ⟨it, hti0, htz, ht1, ht2⟩ := info_parts Try.infoNum
    have eg := enters_of Try.func77 (by kernel_rfl) rfl
    have HIH := Lib.hid (fun (C : List Nat) (g cc : Nat) (wr : World) h1 h2 => colourRest_any Q n c Rb many U T M Fn f near hn K so sc w h9 hm h hp k C g cc wr h1 h2)
    have HME := Lib.hid (fun (c g cc : Nat) (wr : World) (hb : Below w.heap.size w wr) (hC : C.length < n) hc => meets_any Q n c f near hn K so sc (some ⟨g, 0, none⟩) cc C wr h9 hC (h.below hb) hc)
    have hpt := ptr_cell (hp.below hst.below) (a := C.length) (by omega)
    have HFS := Lib.hid (fun c (h : ∀ j, j < c → colF near many k C j = none) => show (c < many → ∀ o, colF near many k C c = some o → colS near many (k + 1) C = some o) from fun hc o ho => by rw [colS_succ]; exact fs_some h hc ho)
    have HFN := Lib.hid (fun (h : ∀ j, j < many → colF near many k C j = none) => show colS near many (k + 1) C = none by rw [colS_succ]; exact fs_none h)
    have cu0 : wr.cell? ⟨U, 0, none⟩ = some (.slice (some ⟨g, 0, none⟩) C.length cc) := hst.u.cell 0
    have ct0 : wr.cell? ⟨T, 0, none⟩ = some (.slice (some ⟨Rb, 0, none⟩) n c) := hst.t.cell 0
    have cm0 : wr.cell? ⟨M, 0, none⟩ = some (.int .i64 (many : Nat)) := hst.m.cell 0
    have hCn : (C.length : Int) < (n : Int) := by omega
    have heq : ((C.length : Int) == (n : Int)) = false := by rw [beq_eq_false_iff_ne]; omega
    have HCN := Lib.hid (show C.length < n by omega)
    have HCK := Lib.hid (show C.length + 1 + k = n by omega)
    have hC9 : C.length + 1 ≤ 9 := by omega
    clear h hp hn hCk
    go_enter Try.func77, Try.ntmps77
    go_wp2
    go_loopw [18] (fun vc wq => ∃ d g cc : Nat, d ≤ many ∧ vc = .int .i64 d ∧ Hid (∀ j, j < d → colF near many k C j = none) ∧ StP w U T M Fn Rb n c many C g cc wq) (fun vc _ => many - (intOf vc).toNat)
    case atStart => exact ⟨0, g, cc, Nat.zero_le _, rfl, Lib.hid (fun j hj => absurd hj (Nat.not_lt_zero _)), hst⟩
    case round =>
      clear hst cu0 ct0 cm0 hpt
      obtain ⟨d, g, cc, hd, rfl, HPRE, hst⟩ := hrel
      obtain ⟨wq, rfl⟩ : ∃ wq, wq = wr := ⟨_, rfl⟩
      by_cases hlt : d < many
      · have hlt' : decide ((d : Int) < (many : Int)) = true := by rw [decide_eq_true_eq]; omega
        have cu0 : wq.cell? ⟨U, 0, none⟩ = some (.slice (some ⟨g, 0, none⟩) C.length cc) := hst.u.cell 0
        have HM := Lib.hid (HME.out d g cc wq hst.below HCN.out (owns_cells hst.row))
        have HST := Lib.hid hst
        clear hst
        cases hfc : fitC near C d
        · have HP2 := Lib.hid (show ∀ j, j < d + 1 → colF near many k C j = none from rows_step HPRE.out (colF_no hfc))
          rw [hfc] at HM
          go_wp2_with (go_at_call 78; refine (HM.out).mono ?_; rintro e w3 ⟨rfl, hb3⟩)
          go_roundw
          case rel => exact ⟨d + 1, g, cc, by omega, by go_num, HP2, HST.out.step hb3⟩
          case measure => simp [intOf]; omega
        · have HCF := Lib.hid (colF_yes (many := many) (k := k) hfc)
          rw [hfc] at HM
          clear hfc
          go_upto_region 8 with (go_at_call 78; refine (HM.out).mono ?_; rintro e w3 ⟨rfl, hb3⟩)
          have hst3 := HST.out.step hb3
          have cu3 : w3.cell? ⟨U, 0, none⟩ = some (.slice (some ⟨g, 0, none⟩) C.length cc) := hst3.u.cell 0
          have HS3 := Lib.hid hst3
          have hrow := hst3.row
          have hbs := hst3.below.size
          have hb3' : C.length + 1 ≤ maxLen := by unfold maxLen; omega
          have hb4' : (C.length + 1) * 8 ≤ 140737488355328 := by omega
          clear hst3 HST cu0 hb3 HM
          have hne := HS3.out.ne
          have hneu := HS3.out.neu
          have hltU := HS3.out.u.lt
          have hltT := HS3.out.t.lt
          have hltM := HS3.out.m.lt
          have hltF := HS3.out.fn.lt
          go_upto_region 9 with (at_builtin; refine wpList_push _ rfl (.tmp 25) (.tmp 27) 30 rfl w.heap.size 3 it (.int .i64 0) 8 Try.underlying30 hti0 htz ht1 ht2 rfl _ C.length cc _ rfl (hrow.alloc _) _ _ _ rfl (cell_new _ _ _) rfl hb3' hb4' (by simp; omega) ?_; intro ro2 rc2 w4 hrow2 hg2 hnew2; have hu4 := (HS3.out.u.alloc (.cells #[.int .i64 (d : Nat)] 3)).kept hg2 (by simp only [Value.ownBlock, ne_eq, Option.some.injEq]; exact fun e => hne.1 e.symm); have cu4 : w4.cell? ⟨U, 0, none⟩ = some (.slice (some ⟨g, 0, none⟩) C.length cc) := hu4.cell 0; have fz4 := hu4.frozen 0)
          obtain ⟨g2, rfl⟩ : ∃ g2, ro2 = some ⟨g2, 0, none⟩ := by
            rcases hrow2.2 with ⟨h, h0⟩ | ⟨g, c, cur, h, _⟩
            · omega
            · simp only [Value.slice.injEq] at h; exact ⟨g, h.1⟩
          have hel : (C ++ [d]).length = C.length + 1 := by simp
          have hne2 : g2 ≠ U ∧ g2 ≠ T ∧ g2 ≠ M ∧ g2 ≠ Fn := by
            rcases hnew2 _ rfl with h' | h'
            · simp only [Option.some.injEq, Addr.mk.injEq, and_true] at h'; subst h'; exact hne
            · rw [World.size_alloc] at h'
              have h2 : w3.heap.size + 1 ≤ g2 := h'
              exact ⟨by omega, by omega, by omega, by omega⟩
          have hs5 : StP w U T M Fn Rb n c many (C ++ [d]) g2 rc2 (w4.setCell ⟨U, 0, none⟩ (.slice (some ⟨g2, 0, none⟩) (C.length + 1) rc2)) := by
            refine ⟨?_, ?_, ?_, ?_, ?_, hne2, hneu, ?_⟩
            · rw [hel]; exact hu4.set1 _
            · exact ((HS3.out.t.alloc _).kept hg2 (by simp only [Value.ownBlock, ne_eq, Option.some.injEq]; exact fun e => hne.2.1 e.symm)).other (a := ⟨U, 0, none⟩) hneu.1 _
            · exact ((HS3.out.m.alloc _).kept hg2 (by simp only [Value.ownBlock, ne_eq, Option.some.injEq]; exact fun e => hne.2.2.1 e.symm)).other (a := ⟨U, 0, none⟩) hneu.2.1 _
            · exact ((HS3.out.fn.alloc _).kept hg2 (by simp only [Value.ownBlock, ne_eq, Option.some.injEq]; exact fun e => hne.2.2.2 e.symm)).other (a := ⟨U, 0, none⟩) hneu.2.2.1 _
            · rw [hel, intsN_snoc]
              exact owns_kept' hrow2 (fun b hb => by simp only [Option.some.injEq] at hb; subst hb; exact hne2.1)
            · exact (below_push HS3.out.below hbs hg2 (fun b hb => (owns_lt hrow b hb).1)).setCell (p := ⟨U, 0, none⟩) hneu.2.2.2 _
          have HI := HIH.out (C ++ [d]) g2 rc2 _ (by rw [hel]; exact HCK.out) hs5
          have cf5 : (w4.setCell ⟨U, 0, none⟩ (.slice (some ⟨g2, 0, none⟩) (C.length + 1) rc2)).cell? ⟨Fn, 0, none⟩ = some (.func (.func 77) #[] #[.pointer (some ⟨U, 0, none⟩), .pointer (some ⟨T, 0, none⟩), .pointer (some ⟨M, 0, none⟩), .pointer (some ⟨Fn, 0, none⟩)]) := hs5.fn.cell 0
          have HHI := Lib.hid HI
          have HEL := Lib.hid hel
          clear hrow hrow2 hg2 hnew2 hu4 cu4 fz4 hel hne hne2 hltU hltT hltM hltF HI hs5 cu3 HS3 hb3' hb4'
          generalize (w4.setCell ⟨U, 0, none⟩ (.slice (some ⟨g2, 0, none⟩) (C.length + 1) rc2)) = W5 at *
          cases hres : colS near many k (C ++ [d]) with
          | none =>
            rw [hres] at HCF HHI
            have HP2 := Lib.hid (show ∀ j, j < d + 1 → colF near many k C j = none from rows_step HPRE.out HCF.out)
            clear hres
            go_upto_region 11 with (go_at_call 77; refine (HHI.out).mono ?_; rintro e w6 ⟨rfl, g6, cc6, hst6⟩)
            change StP w U T M Fn Rb n c many (C ++ [d]) g6 cc6 w6 at hst6
            have hrow6 := hst6.row
            have cu6 : w6.cell? ⟨U, 0, none⟩ = some (.slice (some ⟨g6, 0, none⟩) (C ++ [d]).length cc6) := hst6.u.cell 0
            have fz6 := hst6.u.frozen 0
            rw [HEL.out] at hrow6 cu6
            rw [intsN_snoc] at hrow6
            have hcut := owns_cut hrow6
            have hcc : C.length + 1 ≤ cc6 := by
              rcases hrow6.2 with ⟨hv, _⟩ | ⟨g', cap, cur, hv, _, _, hn, _⟩
              · cases hv
              · simp only [Value.slice.injEq, Option.some.injEq, Addr.mk.injEq, and_true, true_and] at hv
                obtain ⟨_, rfl⟩ := hv; exact hn
            have hc0 : ¬ cc6 = 0 := by omega
            have hst7 : StP w U T M Fn Rb n c many C g6 cc6 (w6.setCell ⟨U, 0, none⟩ (.slice (some ⟨g6, 0, none⟩) C.length cc6)) :=
              ⟨hst6.u.set1 _, hst6.t.other (a := ⟨U, 0, none⟩) hneu.1 _, hst6.m.other (a := ⟨U, 0, none⟩) hneu.2.1 _, hst6.fn.other (a := ⟨U, 0, none⟩) hneu.2.2.1 _,
               owns_kept' hcut (fun b hb => by simp only [Option.some.injEq] at hb; subst hb; exact hst6.ne.1), hst6.ne, hneu, hst6.below.setCell (p := ⟨U, 0, none⟩) hneu.2.2.2 _⟩
            have HS7 := Lib.hid hst7
            have hcl : (C.length : Int) ≤ (cc6 : Int) := by omega
            clear hst6 hrow6 hcut hst7 cf5 HHI HEL
            go_wp2
            go_roundw
            case rel => exact ⟨d + 1, g6, cc6, by omega, by go_num, HP2, HS7.out⟩
            case measure => simp [intOf]; omega
          | some L =>
            rw [hres] at HCF HHI
            have HFI := Lib.hid (HFS.out d HPRE.out hlt _ HCF.out)
            clear hres
            go_wp2_with (go_at_call 77; refine (HHI.out).mono ?_; rintro e w6 ⟨rfl, g6, cc6, hst6⟩)
            go_ret
            rw [HFI.out]
            exact ⟨rfl, g6, cc6, hst6⟩
      · have hlt' : decide ((d : Int) < (many : Int)) = false := by rw [decide_eq_false_iff_not]; omega
        obtain rfl : d = many := by omega
        have HN := Lib.hid (HFN.out HPRE.out)
        have HST := Lib.hid hst
        clear hst
        go_wp2
        go_ret
        rw [HN.out]
        exact ⟨rfl, g, cc, HST.out⟩
end Go.Proofs.Ytkbgkkempooplaa

/-
  The first colours of rooms, the least number of them: the program's answers. (Walks.)
-/
namespace Go.Proofs.Ytkbgkkempooplaa
open Go.RowKit

set_option maxRecDepth 100000 in
set_option maxHeartbeats 2000000 in
theorem colourWith_any (Q n c Rb many : Nat) (f : Nat → Nat → Nat) (near : Nat → Nat → Bool) (hn : ∀ a b, near a b = decide (0 < f a b)) (K : Nat → Prop) (so : Nat → Option Addr) (sc : Nat → Nat) (w : World) (h9 : n ≤ 9) (hm : many ≤ 9)
    (h : ChB w Q n f K so sc) (hp : CellsAt w (some ⟨Rb, 0, none⟩) (ptrs Q n)) :
    Calls Try.prog 64 #[.slice (some ⟨Rb, 0, none⟩) n c, .int .i64 many] w
      fun e w' => ColRet w.heap.size (colS near many n []) e w' ∧ Below w.heap.size w w' := by
  obtain ⟨it, hti, htz, ht1, ht2⟩ := info_parts Try.infoNum
  have eg := enters_of Try.func77 (by kernel_rfl) rfl
  have hB2 : Below w.heap.size w ((w.alloc (.cells #[.slice (some ⟨Rb, 0, none⟩) n c] 41)).alloc (.cells #[.int .i64 (many : Nat)] 3)) := (below_alloc w _).trans ((below_alloc _ _).mono (by simp))
  have hT2 := (HeldB.new w 41 #[.slice (some ⟨Rb, 0, none⟩) n c]).alloc (.cells #[.int .i64 (many : Nat)] 3)
  have hM2 := HeldB.new (w.alloc (.cells #[.slice (some ⟨Rb, 0, none⟩) n c] 41)) 3 #[.int .i64 (many : Nat)]
  rw [World.size_alloc] at hM2
  have HCR := Lib.hid (fun U T M Fn g cc wr hst => colourRest_any Q n c Rb many U T M Fn f near hn K so sc w h9 hm h hp n [] g cc wr (Nat.zero_add _) hst)
  clear h hp hn
  generalize hres : colS near many n [] = R at *
  clear hres
  go_enter Try.func64, Try.ntmps64
  go_upto_region 2 with (at_make; refine wpList_make_own _ rfl _ _ 30 rfl (w.heap.size + 2) 3 it (.int .i64 0) 1 Try.underlying30 hti htz ht1 .i64 .i64 _ n rfl rfl rfl ?c2 ?c3 (by simp) ?_; rotate_left 2; intro w3 hown hgrow)
  case c2 => rw [ht2]; omega
  case c3 => unfold maxLen; omega
  have hgs := hgrow.size
  simp only [World.size_alloc] at hgs hown
  have hlo := (owns_lt hown _ rfl).2
  have hlo2 : w.heap.size + 1 + 1 < w3.heap.size := hlo
  obtain ⟨V, hV⟩ : ∃ V : Value, V = .func (.func 77) #[] #[.pointer (some ⟨w3.heap.size, 0, none⟩), .pointer (some ⟨w.heap.size, 0, none⟩), .pointer (some ⟨w.heap.size + 1, 0, none⟩), .pointer (some ⟨w3.heap.size + 1, 0, none⟩)] := ⟨_, rfl⟩
  have hB3 : Below w.heap.size w w3 := hB2.trans (below_of_grownBy hgrow (by simp; omega) (by simp))
  have hB4 := hB3.alloc hB3.size (.cells #[.slice (some ⟨w.heap.size + 1 + 1, 0, none⟩) 0 n] 30)
  have hu := (HeldB.new w3 30 #[.slice (some ⟨w.heap.size + 1 + 1, 0, none⟩) 0 n]).alloc (.cells #[.nilFunc] 102)
  have hF := HeldB.new (w3.alloc (.cells #[.slice (some ⟨w.heap.size + 1 + 1, 0, none⟩) 0 n] 30)) 102 #[.nilFunc]
  rw [World.size_alloc] at hF
  have hB5 := hB4.alloc hB4.size (.cells #[.nilFunc] 102)
  have ht := ((hT2.kept hgrow (by simp)).alloc (.cells #[.slice (some ⟨w.heap.size + 1 + 1, 0, none⟩) 0 n] 30)).alloc (.cells #[.nilFunc] 102)
  have hm' := ((hM2.kept hgrow (by simp)).alloc (.cells #[.slice (some ⟨w.heap.size + 1 + 1, 0, none⟩) 0 n] 30)).alloc (.cells #[.nilFunc] 102)
  have hrow := ownsRow_base ((hown.alloc (.cells #[.slice (some ⟨w.heap.size + 1 + 1, 0, none⟩) 0 n] 30)).alloc (.cells #[.nilFunc] 102)) (show w.heap.size ≤ w.heap.size + 2 by omega)
  generalize hW5 : (w3.alloc (.cells #[.slice (some ⟨w.heap.size + 1 + 1, 0, none⟩) 0 n] 30)).alloc (.cells #[.nilFunc] 102) = W5 at *
  have cz : W5.cell? ⟨w3.heap.size + 1, 0, none⟩ = some .nilFunc := hF.cell 0
  have fz : W5.frozen? ⟨w3.heap.size + 1, 0, none⟩ = false := hF.frozen 0
  have HW5 := Lib.hid hW5
  have hst : StP w w3.heap.size w.heap.size (w.heap.size + 1) (w3.heap.size + 1) Rb n c many [] (w.heap.size + 1 + 1) n (W5.setCell ⟨w3.heap.size + 1, 0, none⟩ V) :=
    ⟨hu.other (a := ⟨w3.heap.size + 1, 0, none⟩) (by show w3.heap.size ≠ w3.heap.size + 1; omega) _, ht.other (a := ⟨w3.heap.size + 1, 0, none⟩) (by show w.heap.size ≠ w3.heap.size + 1; omega) _, hm'.other (a := ⟨w3.heap.size + 1, 0, none⟩) (by show w.heap.size + 1 ≠ w3.heap.size + 1; omega) _,
     by rw [← hV]; exact hF.set1 _, owns_kept' hrow (fun b hb => by simp only [Option.some.injEq] at hb; subst hb; show w.heap.size + 1 + 1 ≠ w3.heap.size + 1; omega), ⟨by omega, by omega, by omega, by omega⟩, ⟨by omega, by omega, by omega, by omega⟩, hB5.setCell (p := ⟨w3.heap.size + 1, 0, none⟩) (by show w.heap.size ≤ w3.heap.size + 1; omega) _⟩
  have cf : (W5.setCell ⟨w3.heap.size + 1, 0, none⟩ V).cell? ⟨w3.heap.size + 1, 0, none⟩ = some V := (hF.set1 V).cell 0
  have HCR2 := Lib.hid (HCR.out _ _ _ _ _ _ _ hst)
  rw [hV] at HCR2 cf
  clear hst hu hF hB2 hB3 hB4 hB5 hT2 hM2 hown hgrow hgs HCR hV hW5 ht hm' hrow
  go_upto_region 3 with fail
  rw [HW5.out]
  go_wp2_with (go_at_call 77; refine (HCR2.out).mono ?_; rintro e w6 ⟨rfl, g6, cc6, hst6⟩; have cu6 := hst6.u.cell 0)
  go_ret2
  exact ⟨⟨g6, cc6, rfl, hst6.row⟩, hst6.below⟩

set_option maxRecDepth 100000 in
set_option maxHeartbeats 1000000 in
theorem firstColours_any (Q n c Rb : Nat) (f : Nat → Nat → Nat) (near : Nat → Nat → Bool) (hn : ∀ a b, near a b = decide (0 < f a b)) (K : Nat → Prop) (so : Nat → Option Addr) (sc : Nat → Nat) (w : World) (h0 : 0 < n) (h9 : n ≤ 9)
    (h : ChB w Q n f K so sc) (hp : CellsAt w (some ⟨Rb, 0, none⟩) (ptrs Q n)) :
    Calls Try.prog 39 #[.slice (some ⟨Rb, 0, none⟩) n c] w
      fun e w' => (∃ g rc, e = .returned (.slice (some ⟨g, 0, none⟩) (leastC near n).2.length rc) ∧ w'.ownsRow w.heap.size 3 1 (.slice (some ⟨g, 0, none⟩) (leastC near n).2.length rc) (leastC near n).2.length (intsN (leastC near n).2)) ∧ Below w.heap.size w w' := by
  have HCW := Lib.hid (fun (m : Nat) (hm : m ≤ n) (wr : World) (hb : Below w.heap.size w wr) => colourWith_any Q n c Rb m f near hn K so sc wr h9 (by omega) (h.below hb) (hp.below hb))
  have HEQ := Lib.hid (fun (m : Nat) (L : List Nat) (h1 : 1 ≤ m) h h2 => leastC_eq (near := near) (m := m) (L := L) h0 h1 h h2)
  have HAL := Lib.hid (colS_all (near := near) n)
  clear h hp hn
  generalize leastC near n = LP at *
  generalize hf : (fun m => colS near m n []) = F at *
  have HF := Lib.hid (show ∀ m, colS near m n [] = F m by rw [← hf]; exact fun _ => rfl)
  have HCW2 := Lib.hid (fun (m : Nat) (hm : m ≤ n) (wr : World) (hb : Below w.heap.size w wr) => show Calls Try.prog 64 #[.slice (some ⟨Rb, 0, none⟩) n c, .int .i64 (m : Nat)] wr fun e w' => ColRet wr.heap.size (F m) e w' ∧ Below wr.heap.size wr w' by rw [← HF.out]; exact HCW.out m hm wr hb)
  have HEQ2 := Lib.hid (fun (m : Nat) (L : List Nat) (h1 : 1 ≤ m) (h : ∀ i, 1 ≤ i → i < m → F i = none) (h2 : F m = some L) => HEQ.out m L h1 (fun i a b => by rw [HF.out]; exact h i a b) (by rw [HF.out]; exact h2))
  have HAL2 := Lib.hid (show (F n).isSome = true by rw [← HF.out]; exact HAL.out)
  clear HCW HEQ HAL HF hf
  go_enter Try.func39, Try.ntmps39
  go_wp2
  go_loopw [3] (fun vm wr => ∃ m : Nat, 1 ≤ m ∧ m ≤ n + 1 ∧ vm = .int .i64 m ∧ Hid (∀ i, 1 ≤ i → i < m → F i = none) ∧ Below w.heap.size w wr) (fun vm _ => n + 1 - (intOf vm).toNat)
  case atStart => exact ⟨1, Nat.le_refl _, by omega, rfl, Lib.hid (fun i h1 h2 => by omega), Below.refl _ _⟩
  case round =>
    obtain ⟨m, hm1, hmn, rfl, HPRE, hb⟩ := hrel
    by_cases hle : m ≤ n
    · have hle' : decide ((m : Int) ≤ (n : Int)) = true := by rw [decide_eq_true_eq]; omega
      have HC := Lib.hid (HCW2.out m hle wr hb)
      cases hres : F m with
      | none =>
        have HP2 := Lib.hid (show ∀ i, 1 ≤ i → i < m + 1 → F i = none from fun i h1 h2 => by
          rcases Nat.lt_succ_iff_lt_or_eq.1 h2 with h' | rfl
          · exact HPRE.out i h1 h'
          · exact hres)
        rw [hres] at HC
        clear hres
        go_wp2_with fail
        refine (HC.out).mono ?_
        rintro e w2 ⟨⟨g, rc, rfl, hrow⟩, hb2⟩
        have hb3 := below_step hb hb.size hb2
        clear HC hrow
        go_wp2
        go_roundw
        case rel => exact ⟨m + 1, by omega, by omega, by go_num, HP2, hb3⟩
        case measure => simp [intOf]; omega
      | some L =>
        have HE := Lib.hid (HEQ2.out m L hm1 HPRE.out hres)
        rw [hres] at HC
        clear hres
        go_wp2_with fail
        refine (HC.out).mono ?_
        rintro e w2 ⟨⟨g, rc, rfl, hrow⟩, hb2⟩
        have hb3 := below_step hb hb.size hb2
        have HRW := Lib.hid (ownsRow_base hrow hb.size)
        clear HC hrow
        go_wp2
        go_ret
        rw [HE.out]
        exact ⟨⟨g, rc, rfl, HRW.out⟩, hb3⟩
    · exfalso
      have h1 := HPRE.out n h0 (by omega)
      have h2 := HAL2.out
      rw [h1] at h2; cases h2

set_option maxRecDepth 100000 in
theorem firstColours_none (w : World) : Calls Try.prog 39 #[.slice none 0 0] w fun e w' => e = .returned (.slice none 0 0) ∧ w' = w := by
  go_enter Try.func39, Try.ntmps39
  go_wp2
  go_loopw [3] (fun vm wr => vm = .int .i64 1 ∧ wr = w) (fun _ _ => 0)
  case atStart => exact ⟨rfl, rfl⟩
  case round =>
    obtain ⟨rfl, rfl⟩ := hrel
    go_wp2
    go_ret
    exact ⟨rfl, rfl⟩

/-- the first list of colours -/
def firstL (p : List ByteArray) : List Int := if planB p then (leastP p).2.map (fun b : Nat => (b : Int)) else []
theorem firstL_yes {p : List ByteArray} (h : planB p = true) : firstL p = (leastP p).2.map (fun b : Nat => (b : Int)) := by unfold firstL; rw [if_pos h]
theorem firstL_few (p : List ByteArray) : (firstL p).length ≤ 1048576 := by
  unfold firstL
  split
  · rename_i h
    rw [List.length_map, leastP_len h]; have := (planP_of h).few; omega
  · decide
theorem firstL_ints {L : List Nat} : (L.map (fun b : Nat => (b : Int))).map (Value.int .i64) = intsN L := by rw [List.map_map]; rfl

theorem specNearFirst_is (ao : Option Addr) (cap : Nat) (p : List ByteArray) (w : World) (hl : p.length ≤ 1048576) (hs : ∀ s ∈ p, s.size ≤ 1048576) (hc : CellsAt w ao (p.map Value.string)) :
    Calls Try.prog 22 #[.slice ao p.length cap] w
      fun e w' => (∃ ro rc, e = .returned (.tuple #[.slice ro (firstL p).length rc, .bool (planB p)]) ∧ w'.ownsRow w.heap.size 3 1 (.slice ro (firstL p).length rc) (firstL p).length ((firstL p).map (Value.int .i64))) ∧ Below w.heap.size w w' := by
  have h := specNearFirst_any ao cap p w hl hs hc
  have e1 : (firstL p).map (Value.int .i64) = intsN (if planB p then (leastP p).2 else []) := by
    unfold firstL; split
    · exact firstL_ints
    · rfl
  have e2 : (firstL p).length = (if planB p then (leastP p).2 else []).length := by
    unfold firstL; split
    · rw [List.length_map]
    · rfl
  rw [e1, e2]; exact h

set_option maxRecDepth 100000 in
set_option maxHeartbeats 1000000 in
theorem implNearFirst_any (ao : Option Addr) (cap : Nat) (p : List ByteArray) (w : World) (hl : p.length ≤ 1048576) (hs : ∀ s ∈ p, s.size ≤ 1048576) (hc : CellsAt w ao (p.map Value.string)) :
    Calls Try.prog 21 #[.slice ao p.length cap] w fun e w' => NumsRet w.heap.size (firstL p) (planB p) e w' ∧ Below w.heap.size w w' := by
  have hask : askB p [] = planB p := by unfold askB; simp
  cases hp : planB p
  · have h0 : firstL p = [] := by unfold firstL; rw [hp]; rfl
    rw [hp] at hask
    have HR := Lib.hid (readChambers_no ao cap p none 0 [] w hl hs hc (by simp) (CellsAt.nil _ _) hask)
    have HN := Lib.hid (fun w => firstColours_none w)
    rw [h0]
    clear h0 hask
    go_enter Try.func21, Try.ntmps21
    go_wp2_with (first
      | (go_at_call 28; refine (HR.out).mono ?_; rintro e w1 ⟨rfl, hb1⟩)
      | (go_at_call 39; refine (HN.out _).mono ?_; rintro e w2 ⟨rfl, rfl⟩))
    go_ret2
    exact ⟨⟨none, 0, rfl, ⟨rfl, .inl ⟨rfl, rfl⟩⟩⟩, hb1⟩
  · rw [hp] at hask
    have HR := Lib.hid (readChambers_yes ao cap p none 0 [] w hl hs hc (by simp) (CellsAt.nil _ _) hask)
    have h9 := (planP_of hp).few
    have HFC := Lib.hid (fun (W : World) (Q c Rb : Nat) so sc (h : ChB W Q (gridR p) (nbF p) (fun k => k < Q) so sc) h2 => firstColours_any Q (gridR p) c Rb (nbF p) (nearB p) (fun a b => by unfold nearB; rw [nbF_bes hp]) _ so sc W (gridR_pos hp) h9 h h2)
    change Hid (∀ (W : World) (Q c Rb : Nat) so sc, ChB W Q (gridR p) (nbF p) (fun k => k < Q) so sc → CellsAt W (some ⟨Rb, 0, none⟩) (ptrs Q (gridR p)) → Calls Try.prog 39 #[.slice (some ⟨Rb, 0, none⟩) (gridR p) c] W
      fun e w' => (∃ g rc, e = .returned (.slice (some ⟨g, 0, none⟩) (leastP p).2.length rc) ∧ w'.ownsRow W.heap.size 3 1 (.slice (some ⟨g, 0, none⟩) (leastP p).2.length rc) (leastP p).2.length (intsN (leastP p).2)) ∧ Below W.heap.size W w') at HFC
    rw [firstL_yes hp]
    unfold Linked at HR
    have HI := Lib.hid (firstL_ints (L := (leastP p).2))
    have HLN := Lib.hid (show ((leastP p).2.map (fun b : Nat => (b : Int))).length = (leastP p).2.length from List.length_map _)
    clear hask hl hs hc hp
    generalize (leastP p).2 = L at *
    generalize nbF p = f at *
    generalize gridR p = n at *
    go_enter Try.func21, Try.ntmps21
    go_wp2_with (first
      | (go_at_call 28; refine (HR.out).mono ?_; rintro e w1 ⟨Rb, c, Q, rfl, y1, ⟨so, sc, y2⟩, y3, y4, y5⟩; have HF2 := Lib.hid (HFC.out w1 Q c Rb so sc y2 y1); clear y1 y2)
      | (go_at_call 39; refine (HF2.out).mono ?_; rintro e w2 ⟨⟨g, rc, rfl, hrow⟩, hb2⟩))
    go_ret2
    exact ⟨⟨_, _, by rw [HLN.out]; rfl, by rw [HLN.out, HI.out]; exact ownsRow_base hrow y5.size⟩, below_step y5 y5.size hb2⟩

theorem intsN_range (L : List Nat) : intsN ((List.range L.length).map fun i => L.getD i 0) = intsN L := by
  congr 1
  apply List.ext_getElem?
  intro i
  rw [List.getElem?_map]
  by_cases h : i < L.length
  · rw [List.getElem?_range h, List.getElem?_eq_getElem h]; simp [List.getD_eq_getElem?_getD, h]
  · rw [List.getElem?_eq_none (by simpa using h), List.getElem?_eq_none (by omega)]; rfl
theorem least_max {p : List ByteArray} (h : planB p = true) : mxF (fun i => (leastP p).2.getD i 0) (leastP p).2.length + 1 = (leastP p).1 := by
  have hpos := gridR_pos h
  obtain ⟨h1, a, ha, h2⟩ := leastC_max (near := nearB p) hpos
  rw [leastP_len h]
  have hge := mxF_ge (f := fun i => (leastP p).2.getD i 0) ha
  obtain ⟨i, hi, he⟩ := mxF_some (fun i => (leastP p).2.getD i 0) (gridR p) hpos
  have h3 := h1 i hi
  have h4 : (leastP p).2.getD a 0 + 1 = (leastP p).1 := h2
  have h5 : (leastP p).2.getD i 0 + 1 ≤ (leastP p).1 := h3
  have hge' : (leastP p).2.getD a 0 ≤ mxF (fun i => (leastP p).2.getD i 0) (gridR p) := hge
  have he' : mxF (fun i => (leastP p).2.getD i 0) (gridR p) = (leastP p).2.getD i 0 := he
  omega

set_option maxRecDepth 100000 in
set_option maxHeartbeats 1000000 in
theorem implNearColours_any (ao : Option Addr) (cap : Nat) (p : List ByteArray) (w : World) (hl : p.length ≤ 1048576) (hs : ∀ s ∈ p, s.size ≤ 1048576) (hc : CellsAt w ao (p.map Value.string)) :
    Calls Try.prog 24 #[.slice ao p.length cap] w fun e w' => e = .returned (.tuple #[.int .i64 (colsN p : Nat), .bool (planB p)]) ∧ Below w.heap.size w w' := by
  have hask : askB p [] = planB p := by unfold askB; simp
  cases hp : planB p
  · have h0 : colsN p = 0 := by unfold colsN; rw [hp]; rfl
    rw [hp] at hask
    have HR := Lib.hid (readChambers_no ao cap p none 0 [] w hl hs hc (by simp) (CellsAt.nil _ _) hask)
    rw [h0]
    clear h0 hask
    go_enter Try.func24, Try.ntmps24
    go_wp2_with (go_at_call 28; refine (HR.out).mono ?_; rintro e w1 ⟨rfl, hb1⟩)
    go_ret2
    exact ⟨rfl, hb1⟩
  · rw [hp] at hask
    have HR := Lib.hid (readChambers_yes ao cap p none 0 [] w hl hs hc (by simp) (CellsAt.nil _ _) hask)
    have h9 := (planP_of hp).few
    have HFC := Lib.hid (fun (W : World) (Q c Rb : Nat) so sc (h : ChB W Q (gridR p) (nbF p) (fun k => k < Q) so sc) h2 => firstColours_any Q (gridR p) c Rb (nbF p) (nearB p) (fun a b => by unfold nearB; rw [nbF_bes hp]) _ so sc W (gridR_pos hp) h9 h h2)
    change Hid (∀ (W : World) (Q c Rb : Nat) so sc, ChB W Q (gridR p) (nbF p) (fun k => k < Q) so sc → CellsAt W (some ⟨Rb, 0, none⟩) (ptrs Q (gridR p)) → Calls Try.prog 39 #[.slice (some ⟨Rb, 0, none⟩) (gridR p) c] W
      fun e w' => (∃ g rc, e = .returned (.slice (some ⟨g, 0, none⟩) (leastP p).2.length rc) ∧ w'.ownsRow W.heap.size 3 1 (.slice (some ⟨g, 0, none⟩) (leastP p).2.length rc) (leastP p).2.length (intsN (leastP p).2)) ∧ Below W.heap.size W w') at HFC
    have h0 : colsN p = (leastP p).1 := by unfold colsN; rw [hp]; rfl
    have hle := leastP_le hp
    have hmx := least_max hp
    have HLB := Lib.hid (show ∀ i, (leastP p).2.getD i 0 ≤ 1000 from fun i => by
      by_cases hi : i < (leastP p).2.length
      · have h1 := (leastC_max (near := nearB p) (gridR_pos hp)).1 i (by rw [leastP_len hp] at hi; exact hi)
        have h2 : (leastP p).2.getD i 0 + 1 ≤ (leastP p).1 := h1
        omega
      · rw [List.getD_eq_getElem?_getD, List.getElem?_eq_none (by omega)]; decide)
    have HLN := Lib.hid (show 0 < (leastP p).2.length ∧ (leastP p).2.length ≤ 1000 by rw [leastP_len hp]; exact ⟨gridR_pos hp, by omega⟩)
    rw [h0]
    unfold Linked at HR
    clear hask hl hs hc hp h0
    generalize (leastP p).1 = m at *
    generalize (leastP p).2 = L at *
    generalize nbF p = f at *
    generalize gridR p = n at *
    have HMX := Lib.hid (fun (W : World) ao cap (h : CellsAt W ao (intsN L)) => maxInts_any ao cap L.length (fun i => L.getD i 0) W HLN.out.1 HLN.out.2 HLB.out (by rw [intsN_range]; exact h))
    generalize (mxF (fun i => L.getD i 0) L.length) = x at *
    subst hmx
    have hx9 : x ≤ 9 := by omega
    clear hle
    go_enter Try.func24, Try.ntmps24
    go_wp2_with (first
      | (go_at_call 28; refine (HR.out).mono ?_; rintro e w1 ⟨Rb, c, Q, rfl, y1, ⟨so, sc, y2⟩, y3, y4, y5⟩; have HF2 := Lib.hid (HFC.out w1 Q c Rb so sc y2 y1); clear y1 y2)
      | (go_at_call 39; refine (HF2.out).mono ?_; rintro e w2 ⟨⟨g, rc, rfl, hrow⟩, hb2⟩; have hcl := owns_cells hrow; clear hrow)
      | (go_at_call 33; refine (HMX.out _ _ _ hcl).mono ?_; rintro e w3 ⟨rfl, rfl⟩))
    go_ret2
    exact ⟨rfl, below_step y5 y5.size hb2⟩
end Go.Proofs.Ytkbgkkempooplaa
