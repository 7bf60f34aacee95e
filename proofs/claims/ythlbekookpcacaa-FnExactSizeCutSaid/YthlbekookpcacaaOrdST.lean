
/-
  Merged texts: OrdS OrdT OrdU.
-/
import Derived.Test.YthlbekookpcacaaOrdMG
import Derived.Test.YthlbekookpcacaaSideS
import Derived.Test.YthlbekookpcacaaLong
import Derived.Test.YthlbekookpcacaaOrdIO
import Derived.BigRegion
import Derived.Lib.AppendZeros

/-
  The model's sets of rooms: as numbers whose bits tell the rooms. (Plain mathematics, and walks.)
-/
namespace Go.Proofs.Ythlbekookpcacaa
open Go.RowKit

/-! # sets as numbers -/
def setsV (S : List Nat) : Array Value := (S.map fun m => Value.int .i64 ((m : Nat) : Int)).toArray
theorem setsV_size (S : List Nat) : (setsV S).size = S.length := by simp [setsV]
theorem setsV_at {S : List Nat} {i : Nat} (h : i < S.length) : (setsV S)[i]? = some (.int .i64 ((S.getD i 0 : Nat) : Int)) := by simp [setsV, h]
theorem setsV_put (S : List Nat) (i m : Nat) : (setsV S).setIfInBounds i (.int .i64 (m : Nat)) = setsV (S.set i m) := by
  unfold setsV; rw [List.map_set]; simp
structure IsSets (S : List Nat) (n : Nat) (f : Nat → Nat → Bool) : Prop where
  len : S.length = n
  low : ∀ a, a < n → S.getD a 0 < 512
  bit : ∀ a b, a < n → (S.getD a 0).testBit b = f a b
theorem IsSets.same {S : List Nat} {n : Nat} {f f' : Nat → Nat → Bool} (h : IsSets S n f) (he : ∀ a b, a < n → f a b = f' a b) : IsSets S n f' :=
  ⟨h.len, h.low, fun a b ha => by rw [h.bit a b ha, he a b ha]⟩
theorem sets_zero {n : Nat} {f : Nat → Nat → Bool} (hf : ∀ a b, f a b = false) : IsSets (List.replicate n 0) n f :=
  ⟨List.length_replicate, fun a ha => by simp [ha], fun a b ha => by rw [hf]; simp [ha]⟩
theorem getD_set (S : List Nat) (i a m : Nat) (hi : i < S.length) : (S.set i m).getD a 0 = if a = i then m else S.getD a 0 := by
  rw [List.getD_eq_getElem?_getD, List.getElem?_set, List.getD_eq_getElem?_getD]
  by_cases h : a = i
  · subst h; simp [hi]
  · rw [if_neg (fun e => h e.symm), if_neg h]
/-- a room told -/
theorem IsSets.put {S : List Nat} {n : Nat} {f f' : Nat → Nat → Bool} (h : IsSets S n f) {x y : Nat} (hx : x < n) (hy : y < 9) (hf : ∀ a b, f' a b = if a = x ∧ b = y then true else f a b) : IsSets (S.set x (S.getD x 0 ||| 2 ^ y)) n f' := by
  have hl := h.len
  refine ⟨by rw [List.length_set]; exact hl, fun a ha => ?_, fun a b ha => ?_⟩
  · rw [getD_set _ _ _ _ (by omega)]
    split
    · have : 2 ^ y < 2 ^ 9 := Nat.pow_lt_pow_right (by omega) hy
      exact Nat.or_lt_two_pow (n := 9) (h.low x hx) this
    · exact h.low a ha
  · rw [getD_set _ _ _ _ (by omega), hf]
    by_cases hax : a = x
    · subst hax
      rw [if_pos rfl, Nat.testBit_or, h.bit a b ha, Nat.testBit_two_pow]
      by_cases hb : y = b
      · subst hb; rw [if_pos ⟨rfl, rfl⟩]; simp
      · rw [if_neg (fun e => hb e.2.symm), decide_eq_false hb, Bool.or_false]
    · rw [if_neg hax, if_neg (fun e => hax e.1)]
      exact h.bit a b ha
/-- a set taken in -/
theorem IsSets.join {S : List Nat} {n : Nat} {f f' : Nat → Nat → Bool} (h : IsSets S n f) {x y : Nat} (hx : x < n) (hy : y < n) (hf : ∀ a b, f' a b = if a = x then f x b || f y b else f a b) : IsSets (S.set x (S.getD x 0 ||| S.getD y 0)) n f' := by
  have hl := h.len
  refine ⟨by rw [List.length_set]; exact hl, fun a ha => ?_, fun a b ha => ?_⟩
  · rw [getD_set _ _ _ _ (by omega)]
    split
    · exact Nat.or_lt_two_pow (n := 9) (h.low x hx) (h.low y hy)
    · exact h.low a ha
  · rw [getD_set _ _ _ _ (by omega), hf]
    by_cases hax : a = x
    · subst hax
      rw [if_pos rfl, if_pos rfl, Nat.testBit_or, h.bit a b ha, h.bit y b hy]
    · rw [if_neg hax, if_neg hax]
      exact h.bit a b ha

/-- small numbers put together -/
theorem or_i64 (a b : Nat) (ha : a < 4294967296) (hb : b < 4294967296) : bits .or .i64 (a : Int) (b : Int) = ((a ||| b : Nat) : Int) := by
  have hx : a ||| b < 2 ^ 32 := Nat.or_lt_two_pow (by omega) (by omega)
  have h1 : (BitVec.ofInt 64 (a : Int)).toNat = a := by
    rw [BitVec.ofInt_natCast, BitVec.toNat_ofNat]; exact Nat.mod_eq_of_lt (by omega)
  have h2 : (BitVec.ofInt 64 (b : Int)).toNat = b := by
    rw [BitVec.ofInt_natCast, BitVec.toNat_ofNat]; exact Nat.mod_eq_of_lt (by omega)
  show IntKind.i64.wrap ((BitVec.ofInt 64 (a : Int) ||| BitVec.ofInt 64 (b : Int)).toNat : Int) = _
  rw [BitVec.toNat_or, h1, h2]
  simp [IntKind.wrap, IntKind.bits, IntKind.signed]
  omega
theorem and_i64 (a b : Nat) (ha : a < 4294967296) (hb : b < 4294967296) : bits .and .i64 (a : Int) (b : Int) = ((a &&& b : Nat) : Int) := by
  have hx : a &&& b < 2 ^ 32 := Nat.and_lt_two_pow _ (by omega)
  have h1 : (BitVec.ofInt 64 (a : Int)).toNat = a := by
    rw [BitVec.ofInt_natCast, BitVec.toNat_ofNat]; exact Nat.mod_eq_of_lt (by omega)
  have h2 : (BitVec.ofInt 64 (b : Int)).toNat = b := by
    rw [BitVec.ofInt_natCast, BitVec.toNat_ofNat]; exact Nat.mod_eq_of_lt (by omega)
  show IntKind.i64.wrap ((BitVec.ofInt 64 (a : Int) &&& BitVec.ofInt 64 (b : Int)).toNat : Int) = _
  rw [BitVec.toNat_and, h1, h2]
  simp [IntKind.wrap, IntKind.bits, IntKind.signed]
  omega
/-- one bit of a small number -/
theorem bit_i64 (m b : Nat) (hm : m < 512) : (bits .and .i64 ((m : Int) / 2 ^ b) 1 == 1) = m.testBit b := by
  have e1 : (m : Int) / 2 ^ b = ((m / 2 ^ b : Nat) : Int) := by
    simp
  have e2 := and_i64 (m / 2 ^ b) 1 (Nat.lt_of_le_of_lt (Nat.div_le_self _ _) (by omega)) (by omega)
  rw [e1]
  change (bits .and .i64 ((m / 2 ^ b : Nat) : Int) ((1 : Nat) : Int) == 1) = _
  rw [e2, Nat.and_one_is_mod, Nat.testBit_eq_decide_div_mod_eq]
  rw [Bool.eq_iff_iff, beq_iff_eq, decide_eq_true_eq]
  omega
end Go.Proofs.Ythlbekookpcacaa

/-
  The model's rooms just led to. (Walk.)
-/
namespace Go.Proofs.Ythlbekookpcacaa
open Go.RowKit

/-- walls as rows, of a base on -/
def WRows (w : World) (base : Nat) (ro : Option Addr) (L : List Wl) : Prop :=
  ∀ k, k < L.length → ∃ bb off gg cc, ro = some ⟨bb, off, none⟩ ∧ w.cell? ⟨bb, off + k, none⟩ = some (.slice (some ⟨gg, 0, none⟩) 4 cc) ∧ CellsAt w (some ⟨gg, 0, none⟩) ((wlN (L.getD k zeroWl)).map (Value.int .i64)) ∧ base ≤ bb ∧ base ≤ gg ∧ bb < w.heap.size ∧ gg < w.heap.size
theorem wrows_of {w : World} {base : Nat} {uo : Option Addr} {uc : Nat} {L : List Wl} {us : List Value} (h : RowsAt w base uo uc (L.map wlN) us) : WRows w base uo L := fun k hk => by
  have hl : k < (L.map wlN).length := by rw [List.length_map]; exact hk
  obtain ⟨bb, off, g, c, h1, h2, h3, h4⟩ := h.row hl (by rw [wlN_getD hk]; exact Nat.succ_pos _)
  rw [wlN_getD hk] at h2 h3
  exact ⟨bb, off, g, c, h1, h2, h3, h4⟩
theorem WRows.grown {w w' : World} {base : Nat} {ro : Option Addr} {L : List Wl} (h : WRows w base ro L) {row : Option Nat} (hg : w.grownBy w' row) (hr : ∀ k, row = some k → k < base ∨ w.heap.size ≤ k) : WRows w' base ro L := fun k hk => by
  obtain ⟨bb, off, gg, cc, h1, h2, h3, h4, h5, h6, h7⟩ := h k hk
  have n1 : some bb ≠ row := fun e => by have := hr bb e.symm; omega
  have n2 : some gg ≠ row := fun e => by have := hr gg e.symm; omega
  exact ⟨bb, off, gg, cc, h1, hg.cell h2 n1, h3.grown hg (fun a ha => by cases ha; exact n2), h4, h5, Nat.lt_of_lt_of_le h6 hg.size, Nat.lt_of_lt_of_le h7 hg.size⟩
theorem WRows.below {w w' : World} {base : Nat} {ro : Option Addr} {L : List Wl} (h : WRows w base ro L) (hb : Below w.heap.size w w') : WRows w' base ro L := h.grown (grownBy_of_below hb none) (fun k hk => by cases hk)
theorem gbCell (w : World) (b i : Nat) (v : Value) : w.grownBy (w.setCell ⟨b, i, none⟩ v) (some b) :=
  ⟨rfl, rfl, rfl, (KeepsWalks.setCell w _ v).size, fun k _ hk => Below.heap_setCell _ _ _ k (fun e => hk (by rw [e]))⟩
/-- numbers made, all nought -/
theorem held_zero {w : World} {base g n : Nat} (h : w.ownsRow base 3 1 (.slice (some ⟨g, 0, none⟩) n n) n (madeCells (Value.int .i64 0).cells (n * 1)).toList) (hn : 0 < n) : HeldB w g 3 (setsV (List.replicate n 0)) := by
  rw [show (.int .i64 0 : Value).cells = #[.int .i64 0] from rfl, Nat.mul_one, toList_madeCells_one] at h
  rcases h.2 with ⟨hv, h0⟩ | ⟨g', cap', cur, hv, hb, hg, h1, h2, h3, h4⟩
  · omega
  · simp only [Value.slice.injEq, Option.some.injEq, Addr.mk.injEq, and_true, true_and] at hv
    obtain ⟨rfl, rfl⟩ := hv
    rw [Nat.mul_one] at h3 h4
    rw [List.take_of_length_le (by rw [Array.length_toList]; omega)] at h4
    have hcur : cur = setsV (List.replicate n 0) := by
      apply Array.toList_inj.1
      rw [h4]
      simp [setsV]
    rw [← hcur]
    exact hg

theorem or_pow {S : List Nat} {x y : Nat} (hx : x < S.length) (hS : S.getD x 0 < 512) (hy : y < 9) : bits .or .i64 ((S[x] : Nat) : Int) (wrap64 (2 ^ y)) = ((S.getD x 0 ||| 2 ^ y : Nat) : Int) := by
  have h1 : 2 ^ y < 2 ^ 9 := Nat.pow_lt_pow_right (by omega) hy
  have e1 : ((2 : Int) ^ y) = ((2 ^ y : Nat) : Int) := by simp
  have e2 : wrap64 ((2 ^ y : Nat) : Int) = ((2 ^ y : Nat) : Int) := by
    generalize 2 ^ y = z at *
    unfold wrap64; omega
  have e3 : S[x] = S.getD x 0 := by simp [hx]
  rw [e1, e2, e3]
  exact or_i64 _ _ (by omega) (by omega)

/-- sets handed back -/
def SetsRet (base : Nat) (S : List Nat) (e : Ending) (w' : World) : Prop := ∃ g, base ≤ g ∧ e = .returned (.slice (some ⟨g, 0, none⟩) S.length S.length) ∧ HeldB w' g 3 (setsV S)

/-- where the model's sets lie while they are told -/
def JuSt (w : World) (ao : Option Addr) (p : List ByteArray) (ro : Option Addr) (L : List Wl) (S : List Nat) (wr : World) : Prop :=
  HeldB wr w.heap.size 3 (setsV S) ∧ WRows wr (w.heap.size + 1) ro L ∧ CellsAt wr ao (p.map Value.string) ∧ Below w.heap.size w wr ∧ w.heap.size + 1 ≤ wr.heap.size
theorem JuSt.below {w : World} {ao : Option Addr} {p : List ByteArray} {ro : Option Addr} {L : List Wl} {S : List Nat} {wr w1 : World} (h : JuSt w ao p ro L S wr) (hb : Below wr.heap.size wr w1) : JuSt w ao p ro L S w1 :=
  ⟨h.1.below hb, h.2.1.below hb, h.2.2.1.below hb, below_step h.2.2.2.1 h.2.2.2.1.size hb, Nat.le_trans h.2.2.2.2 hb.size⟩
theorem JuSt.put {w : World} {ao : Option Addr} {p : List ByteArray} (hao : ∀ a, ao = some a → a.block < w.heap.size) {ro : Option Addr} {L : List Wl} {S : List Nat} {wr : World} (h : JuSt w ao p ro L S wr) (x m : Nat) :
    JuSt w ao p ro L (S.set x m) (wr.setCell ⟨w.heap.size, x, none⟩ (.int .i64 (m : Nat))) := by
  have hg := gbCell wr w.heap.size x (.int .i64 (m : Nat))
  refine ⟨(h.1.set x _).eq (setsV_put S x m), h.2.1.grown hg (fun k hk => .inl (by have := Option.some.inj hk; omega)), h.2.2.1.grown hg (fun a ha e => by have := hao a ha; have := Option.some.inj e; omega), h.2.2.2.1.setCell (p := ⟨w.heap.size, x, none⟩) (by simp) _, Nat.le_trans h.2.2.2.2 hg.size⟩

set_option maxRecDepth 100000 in
set_option maxHeartbeats 4000000 in
theorem l5Just_any (ao : Option Addr) (cap : Nat) (p : List ByteArray) (kind : Nat) (w : World) (hl : p.length ≤ 1048576) (hs : ∀ s ∈ p, s.size ≤ 1048576) (hp : planB p = true) (hc : CellsAt w ao (p.map Value.string)) (hao : ∀ a, ao = some a → a.block < w.heap.size) :
    Calls Try.prog 75 #[.slice ao p.length cap, .int .i64 kind] w
      fun e w' => (∃ S, IsSets S (gridR p) (justG p.length (wideB p) (gridG p) kind) ∧ SetsRet w.heap.size S e w') ∧ Below w.heap.size w w' := by
  have hP := planP_of hp
  have HLR := Lib.hid (show Calls Try.prog 41 #[.slice ao p.length cap] w fun e w' => e = .returned (.int .i64 (gridR p : Nat)) ∧ w' = w by
    have := l1Rooms_any ao cap p w hl hs hc; rwa [hP.rooms] at this)
  have hr1 : 1 ≤ gridR p := by
    have h := gridG_lt (p := p) (i := 0) (j := 0) (by have := hP.grid.h1; omega) (by have := hP.grid.w1; omega)
    omega
  have hr9 := hP.few
  have HW := Lib.hid (fun (w : World) (hc : CellsAt w ao (p.map Value.string)) => by have := l2Walls_any ao cap p w hp hc; rw [wallsL_walls hp, List.length_map] at this; exact this)
  have HWL := Lib.hid (wallsP_yes hp)
  have HS2 := Lib.hid (fun (X : Wl) (hX : X ∈ wallsP p) (gw cw : Nat) (w : World) hc k0 k1 k2 k3 => show Calls Try.prog 99 #[.slice ao p.length cap, .slice (some ⟨gw, 0, none⟩) 4 cw] w
      fun e w' => TwoRet w.heap.size (aheadL (gridG p) X) (behindL (gridG p) X) e w' ∧ Below w.heap.size w w' from l2Sides_any ao cap p X gw cw w hp hX hc k0 k1 k2 k3)
  have HAR := Lib.hid (fun (X : Wl) (hX : X ∈ wallsP p) (i : Nat) hi => ahead_room (r := gridR p) (fun i j hi hj => gridG_lt hi hj) (by rwa [wallsP_yes hp] at hX) (i := i) hi)
  have HBR := Lib.hid (fun (X : Wl) (hX : X ∈ wallsP p) (i : Nat) hi => behind_room (r := gridR p) (fun i j hi hj => gridG_lt hi hj) (by rwa [wallsP_yes hp] at hX) (i := i) hi)
  have HFE := Lib.hid (fun (X : Wl) (hX : X ∈ wallsP p) => sides_few hP.grid.h6 hP.grid.w6 (by rwa [wallsP_yes hp] at hX))
  have HLE := Lib.hid (wallsP_len p)
  have HJG := Lib.hid (show justG p.length (wideB p) (gridG p) kind = justL (gridG p) kind (wallsP p) by unfold justG; rw [wallsP_yes hp])
  rw [HJG.out]
  clear HJG HWL hP
  generalize gridR p = r at *
  generalize gridG p = g at *
  generalize wallsP p = L at *
  obtain ⟨im, hmi, hmz, hm1, hm2⟩ := info_parts Try.infoNum
  have HAO := Lib.hid hao; clear hao
  have HL := Lib.hid hl; have HS := Lib.hid hs
  clear hl hs
  go_enter Try.func75, Try.ntmps75
  go_wp2_with (first
    | (go_at_call 41; refine HLR.out.mono ?_; rintro e w1 ⟨rfl, hw1⟩; have hw1 := hw1.symm; subst hw1)
    | (at_make; refine wpList_make_full _ rfl _ _ 31 rfl w.heap.size 3 im (.int .i64 0) 1 Try.underlying31 hmi hmz hm1 .i64 .i64 _ _ r rfl rfl rfl rfl ?d2 ?d3 (Nat.le_refl _) ?_; rotate_left 2; intro w2 ho2 hg2))
  have hz := held_zero ho2 (by omega)
  have hb2 : Below w.heap.size w w2 := below_of_grownBy hg2 (Nat.le_refl _) (fun k hk => by cases hk)
  have hs2 := hz.lt
  clear ho2 hg2 HLR
  case d2 => rw [hm2]; omega
  case d3 => unfold maxLen; omega
  have hc2 := hc.below hb2
  go_wp2_with (go_at_call 87; refine (HW.out _ hc2).mono ?_; rintro e w3 ⟨ro, rc, rfl, ⟨us, hus⟩, hb3⟩)
  have hs3 := hb3.size
  have st3 : JuSt w ao p ro L (List.replicate r 0) w3 := ⟨hz.below hb3, wrows_of (hus.base (base' := w.heap.size + 1) (by omega)), hc2.below hb3, below_step hb2 hb2.size hb3, by omega⟩
  have is3 : IsSets (List.replicate r 0) r (justL g kind (L.take 0)) := sets_zero (fun a b => rfl)
  clear hz hb2 hs2 hc2 hb3 hus hs3 hw1 HW
  go_loopw [7] (fun v wr => ∃ n : Nat, n ≤ L.length ∧ v = .int .i64 n ∧ ∃ S, JuSt w ao p ro L S wr ∧ IsSets S r (justL g kind (L.take n))) (fun v _ => L.length - (intOf v).toNat)
  case atStart => exact ⟨0, Nat.zero_le _, rfl, _, st3, is3⟩
  case round =>
    clear st3 is3
    obtain ⟨n, hn, rfl, S, hst, his⟩ := hrel
    have hL72 := HLE.out
    by_cases hnl : n < L.length
    · have hX : L.getD n zeroWl ∈ L := getD_mem zeroWl hnl
      have HTK := Lib.hid (take_snoc L n zeroWl hnl)
      obtain ⟨bb, off, gg, cc, hro, kk, cz, _⟩ := hst.2.1 n hnl
      subst hro
      generalize L.getD n zeroWl = X at *
      have zz : ∀ j v, (wlN X)[j]? = some v → wr.cell? ⟨gg, j, none⟩ = some (.int .i64 v) := fun j v hv => by
        obtain ⟨b', o', he, hc⟩ := cz j (.int .i64 v) (by rw [List.getElem?_map, hv]; rfl)
        simp only [Option.some.injEq, Addr.mk.injEq, and_true] at he
        obtain ⟨rfl, rfl⟩ := he
        rwa [Nat.zero_add] at hc
      have z0 := zz 0 _ rfl; have z1 := zz 1 _ rfl; have z2 := zz 2 _ rfl; have z3 := zz 3 _ rfl
      clear zz cz
      by_cases hk : X.way = kind
      · have hd : (((X.way : Nat) : Int) == (kind : Int)) = true := by rw [hk]; exact beq_self_eq_true _
        have HNX := Lib.hid (show accF g (L.take n) X (aheadL g X).length 0 kind = justL g kind (L.take (n + 1)) by rw [HTK.out, accF_all])
        have HZR := Lib.hid (show accF g (L.take n) X 0 0 kind = justL g kind (L.take n) by rw [accF_zero])
        have HSX := Lib.hid (fun gw cw w hc k0 k1 k2 k3 => HS2.out X hX gw cw w hc k0 k1 k2 k3)
        have HAX := Lib.hid (HAR.out X hX)
        have HBX := Lib.hid (HBR.out X hX)
        obtain ⟨hA6, hB6⟩ := HFE.out X hX
        have HROW := Lib.hid (fun (i : Nat) hi => show accF g (L.take n) X i (behindL g X).length kind = accF g (L.take n) X (i + 1) 0 kind by rw [accF_row (L.take n) hi])
        have HPUT := Lib.hid (fun (i j : Nat) (hi : i < (aheadL g X).length) (hj : j < (behindL g X).length) (x y : Nat) (hx : (aheadL g X).getD i 0 = (x : Int)) (hy : (behindL g X).getD j 0 = (y : Int)) (a b : Nat) => show accF g (L.take n) X i (j + 1) kind a b = if a = x ∧ b = y then true else accF g (L.take n) X i j kind a b by
          have := congrFun (congrFun (congrFun (accF_put (L.take n) hi hj hx hy) kind) a) b
          rw [← this, hk]; simp)
        go_wp2_with (go_at_call 99; refine (HSX.out gg cc _ hst.2.2.1 z0 z1 z2 z3).mono ?_; rintro e w4 ⟨⟨r0, q0, r1, q1, rfl, o0, o1, hap⟩, hb4⟩)
        have hst4 := hst.below hb4
        have cA := owns_cells o0
        have cB := owns_cells o1
        have hr0 : ∀ x, r0 = some x → x.block ≠ w.heap.size := fun x hx => by have := owns_lt o0 x hx; have := hst.2.2.2.2; omega
        have hr1 : ∀ x, r1 = some x → x.block ≠ w.heap.size := fun x hx => by have := owns_lt o1 x hx; have := hst.2.2.2.2; omega
        have HR0 := Lib.hid hr0; have HR1 := Lib.hid hr1
        rw [← HZR.out] at his
        clear hr0 hr1 hb4 o0 o1 hap hst kk z0 z1 z2 z3
        generalize HD : L.take n = T at *
        go_loopw [10] (fun v wm => ∃ i : Nat, i ≤ (aheadL g X).length ∧ v = .int .i64 i ∧ ∃ S, JuSt w ao p (some ⟨bb, off, none⟩) L S wm ∧ IsSets S r (accF g T X i 0 kind) ∧ CellsAt wm r0 ((aheadL g X).map (Value.int .i64)) ∧ CellsAt wm r1 ((behindL g X).map (Value.int .i64))) (fun v _ => (aheadL g X).length - (intOf v).toNat)
        case atStart => exact ⟨0, Nat.zero_le _, rfl, S, hst4, his, cA, cB⟩
        case round =>
          clear hst4 his cA cB
          clear S
          obtain ⟨i, hi, rfl, S, hst, his, cA, cB⟩ := hrel
          by_cases hil : i < (aheadL g X).length
          · obtain ⟨x, hx, hxr⟩ := HAX.out i hil
            go_wp2
            go_loopw [11] (fun v wm => ∃ j : Nat, j ≤ (behindL g X).length ∧ v = .int .i64 j ∧ ∃ S, JuSt w ao p (some ⟨bb, off, none⟩) L S wm ∧ IsSets S r (accF g T X i j kind) ∧ CellsAt wm r0 ((aheadL g X).map (Value.int .i64)) ∧ CellsAt wm r1 ((behindL g X).map (Value.int .i64))) (fun v _ => (behindL g X).length - (intOf v).toNat)
            case atStart => exact ⟨0, Nat.zero_le _, rfl, S, hst, his, cA, cB⟩
            case round =>
              clear hst his cA cB
              clear S
              obtain ⟨j, hj, rfl, S, hst, his, cA, cB⟩ := hrel
              by_cases hjl : j < (behindL g X).length
              · obtain ⟨y, hy, hyr⟩ := HBX.out j hjl
                obtain ⟨ab, ao', rfl, ca⟩ := cA i (.int .i64 (x : Int)) (by rw [List.getElem?_map, List.getElem?_eq_getElem hil, ← hx]; simp [hil])
                obtain ⟨bb2, bo, rfl, cb⟩ := cB j (.int .i64 (y : Int)) (by rw [List.getElem?_map, List.getElem?_eq_getElem hjl, ← hy]; simp [hjl])
                have hili : (i : Int) < ((aheadL g X).length : Int) := by omega
                have hjli : (j : Int) < ((behindL g X).length : Int) := by omega
                have hSl := his.len
                have k1 : wr.cell? ⟨w.heap.size, x, none⟩ = some (.int .i64 ((S.getD x 0 : Nat) : Int)) := (hst.1.cell x).trans (setsV_at (by omega))
                have f1 := hst.1.frozen x
                have hxS : x < S.length := by omega
                have hxSi : (x : Int) < (S.length : Int) := by omega
                have hy9 : y < 9 := by omega
                have hS512 := his.low x hxr
                have hOR := or_pow (y := y) hxS hS512 hy9
                obtain ⟨m, hm⟩ : ∃ m, m = S.getD x 0 ||| 2 ^ y := ⟨_, rfl⟩
                have hst2 := hst.put HAO.out x m
                have his2 := his.put (f' := accF g T X i (j + 1) kind) hxr hy9 (HPUT.out i j hil hjl x y hx hy)
                rw [← hm] at hOR his2
                have hgc := gbCell wr w.heap.size x (.int .i64 (m : Int))
                have cA2 := cA.grown hgc (fun z hz e => HR0.out z hz (Option.some.inj e))
                have cB2 := cB.grown hgc (fun z hz e => HR1.out z hz (Option.some.inj e))
                have HOR := Lib.hid hOR
                clear hst his hgc cA cB hOR hm
                go_wp2
                go_region
                rw [HOR.out]
                go_wp2
                go_roundw
                case rel => exact ⟨j + 1, by omega, by go_num, _, hst2.below (below_drewN _ _ 1), his2, cA2.drewN 1, cB2.drewN 1⟩
                case measure => simp [intOf]; omega
              · obtain rfl : j = (behindL g X).length := by omega
                rw [HROW.out i hil] at his
                go_wp2
                go_roundw
                case rel => exact ⟨i + 1, by omega, by go_num, S, hst, his, cA, cB⟩
                case measure => simp [intOf]; omega
          · obtain rfl : i = (aheadL g X).length := by omega
            rw [HNX.out] at his
            go_wp2
            go_roundw
            case rel => exact ⟨n + 1, by omega, by go_num, S, hst, his⟩
            case measure => simp [intOf]; omega
      · have hd : (((X.way : Nat) : Int) == (kind : Int)) = false := by rw [beq_eq_false_iff_ne]; omega
        have his2 : IsSets S r (justL g kind (L.take (n + 1))) := his.same (fun a b _ => by
          rw [HTK.out, justL_snoc]; unfold overW; rw [beq_false_of_ne hk]; simp)
        clear his
        go_wp2
        go_roundw
        case rel => exact ⟨n + 1, by omega, by go_num, S, hst, his2⟩
        case measure => simp [intOf]; omega
    · obtain rfl : n = L.length := by omega
      rw [List.take_length] at his
      have hSl := his.len
      go_wp2
      go_ret
      exact ⟨⟨S, his, w.heap.size, Nat.le_refl _, by rw [hSl]; rfl, hst.1⟩, hst.2.2.2.1⟩
end Go.Proofs.Ythlbekookpcacaa

/-
  The model's rooms led to in the end, and its answers about two rooms. (Walks.)
-/
namespace Go.Proofs.Ythlbekookpcacaa
open Go.RowKit

set_option maxRecDepth 100000 in
set_option maxHeartbeats 4000000 in
theorem l5All_any (ao : Option Addr) (cap : Nat) (p : List ByteArray) (kind : Nat) (w : World) (hl : p.length ≤ 1048576) (hs : ∀ s ∈ p, s.size ≤ 1048576) (hp : planB p = true) (hc : CellsAt w ao (p.map Value.string)) (hao : ∀ a, ao = some a → a.block < w.heap.size) :
    Calls Try.prog 48 #[.slice ao p.length cap, .int .i64 kind] w
      fun e w' => (∃ S, IsSets S (gridR p) (leadG p.length (wideB p) (gridR p) (gridG p) kind) ∧ SetsRet w.heap.size S e w') ∧ Below w.heap.size w w' := by
  have HJ := Lib.hid (l5Just_any ao cap p kind w hl hs hp hc hao)
  have HIN := Lib.hid (justG_in (h := p.length) (wd := wideB p) (r := gridR p) (g := gridG p) (fun i j hi hj => gridG_lt hi hj) kind)
  have hr9 := (planP_of hp).few
  unfold leadG
  generalize justG p.length (wideB p) (gridG p) kind = f at *
  generalize gridR p = r at *
  clear hl hs hc hao
  go_enter Try.func48, Try.ntmps48
  go_wp2_with (go_at_call 75; refine HJ.out.mono ?_; rintro e w1 ⟨⟨S, his, gb, hgb, rfl, hB⟩, hb1⟩)
  have his0 : IsSets S r (wars f 0) := his
  rw [his.len]
  clear his HJ
  go_loopw [6] (fun v wr => ∃ c : Nat, c ≤ r ∧ v = .int .i64 c ∧ ∃ S, IsSets S r (wars f c) ∧ HeldB wr gb 3 (setsV S) ∧ Below w.heap.size w wr) (fun v _ => r - (intOf v).toNat)
  case atStart => exact ⟨0, Nat.zero_le _, rfl, S, his0, hB, hb1⟩
  case round =>
    clear his0 hB hb1
    clear S
    obtain ⟨c, hc, rfl, S, his, hB, hb⟩ := hrel
    by_cases hcr : c < r
    · have his2 : IsSets S r (midF f c 0 0) := his.same (fun a b _ => (midF_zero f c a b).symm)
      clear his
      go_wp2
      go_loopw [7] (fun v wr => ∃ i : Nat, i ≤ r ∧ v = .int .i64 i ∧ ∃ S, IsSets S r (midF f c i 0) ∧ HeldB wr gb 3 (setsV S) ∧ Below w.heap.size w wr) (fun v _ => r - (intOf v).toNat)
      case atStart => exact ⟨0, Nat.zero_le _, rfl, S, his2, hB, hb⟩
      case round =>
        clear his2 hB hb
        clear S
        obtain ⟨i, hi, rfl, S, his, hB, hb⟩ := hrel
        by_cases hir : i < r
        · have hSl := his.len
          have k1 : wr.cell? ⟨gb, i, none⟩ = some (.int .i64 ((S.getD i 0 : Nat) : Int)) := (hB.cell i).trans (setsV_at (by omega))
          have k2 : wr.cell? ⟨gb, c, none⟩ = some (.int .i64 ((S.getD c 0 : Nat) : Int)) := (hB.cell c).trans (setsV_at (by omega))
          have f1 := hB.frozen i
          have hbit := bit_i64 (S.getD i 0) c (his.low i hir)
          rw [his.bit i c hir, midF_to] at hbit
          have hlow1 := his.low i hir
          have hlow2 := his.low c hcr
          have hOR := or_i64 (S.getD i 0) (S.getD c 0) (by omega) (by omega)
          have hjn := fun hw => IsSets.join (f' := midF f c (i + 1) 0) his hir hcr (fun a b => by
            by_cases hai : a = i
            · rw [if_pos hai, midF_from]
              subst hai
              unfold midF
              rw [if_pos (by omega), if_neg (by omega), wars_succ, show wars f c a c = true from hw, Bool.true_and]
            · rw [if_neg hai]
              unfold midF
              by_cases h1 : a < i ∨ a = i ∧ b < 0
              · rw [if_pos h1, if_pos (by omega)]
              · rw [if_neg h1, if_neg (by omega)])
          have hst := fun hw => his.same (f' := midF f c (i + 1) 0) (fun a b _ => by
            unfold midF
            by_cases h1 : a < i ∨ a = i ∧ b < 0
            · rw [if_pos h1, if_pos (by omega)]
            · rw [if_neg h1]
              by_cases hai : a = i
              · subst hai
                rw [if_pos (by omega), wars_succ, show wars f c a c = false from hw, Bool.false_and, Bool.or_false]
              · rw [if_neg (by omega)])
          have hput := fun m : Nat => (hB.set i (.int .i64 (m : Int))).eq (setsV_put S i m)
          have hbp := fun m : Nat => hb.setCell (p := ⟨gb, i, none⟩) hgb (.int .i64 (m : Int))
          have HJN := Lib.hid hjn; have HST := Lib.hid hst; have HPU := Lib.hid hput; have HBP := Lib.hid hbp
          clear hjn hst hput hbp
          obtain ⟨mm, hmm⟩ : ∃ mm, mm = S.getD i 0 ||| S.getD c 0 := ⟨_, rfl⟩
          rw [← hmm] at hOR HJN
          clear hmm hlow1 hlow2
          obtain ⟨m1, hm1⟩ : ∃ m1, m1 = S.getD i 0 := ⟨_, rfl⟩
          obtain ⟨m2, hm2⟩ : ∃ m2, m2 = S.getD c 0 := ⟨_, rfl⟩
          rw [← hm1] at k1 hbit hOR
          rw [← hm2] at k2 hOR
          have HOR := Lib.hid hOR
          clear hm1 hm2 hOR his
          have hiri : (i : Int) < (r : Int) := by omega
          have hcri : (c : Int) < (r : Int) := by omega
          cases hw : wars f c i c
          · rw [hw] at hbit
            have his2 := HST.out hw
            clear HST HJN
            go_wp2
            go_roundw
            case rel => exact ⟨i + 1, by omega, by go_num, S, his2, hB, hb⟩
            case measure => simp [intOf]; omega
          · rw [hw] at hbit
            have his2 := HJN.out hw
            have hB2 := HPU.out mm
            have hb2 := HBP.out mm
            clear HST HJN HPU HBP hB hb
            go_wp2
            go_region
            rw [HOR.out]
            go_wp2
            go_roundw
            case rel => exact ⟨i + 1, by omega, by go_num, _, his2, hB2.drew, hb2.drew⟩
            case measure => simp [intOf]; omega
        · obtain rfl : i = r := by omega
          have his2 : IsSets S i (wars f (c + 1)) := his.same (fun a b _ => midF_all HIN.out c a b)
          clear his
          go_wp2
          go_roundw
          case rel => exact ⟨c + 1, by omega, by go_num, S, his2, hB, hb⟩
          case measure => simp [intOf]; omega
    · obtain rfl : c = r := by omega
      have hSl := his.len
      go_wp2
      go_ret
      exact ⟨⟨S, his, gb, hgb, by rw [hSl]; rfl, hB⟩, hb⟩
end Go.Proofs.Ythlbekookpcacaa
