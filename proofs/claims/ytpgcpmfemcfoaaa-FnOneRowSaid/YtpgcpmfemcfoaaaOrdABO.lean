/-
  Merged texts: OrdST OrdYZ OrdAB.
-/
import Derived.Test.YtpgcpmfemcfoaaaOrdPXO
import Derived.Test.YtpgcpmfemcfoaaaSideSO
import Derived.Test.YtpgcpmfemcfoaaaLongO
import Derived.Test.YtpgcpmfemcfoaaaRowO
import Derived.Test.YtpgcpmfemcfoaaaPointO
import Derived.BigRegion
import Derived.Lib.AppendZeros

/-
  Merged texts: OrdS OrdT OrdU.
-/
/-
  The model's sets of rooms: as numbers whose bits tell the rooms. (Plain mathematics, and walks.)
-/
namespace Go.Proofs.Ytpgcpmfemcfoaaa
open Go.RowKit

/-! # sets as numbers -/
def setsV (S : List Nat) : Array Value := (S.map fun m => Value.int .i64 ((m : Nat) : Int)).toArray
theorem setsV_at {S : List Nat} {i : Nat} (h : i < S.length) : (setsV S)[i]? = some (.int .i64 ((S.getD i 0 : Nat) : Int)) := by simp [setsV, h]
theorem setsV_put (S : List Nat) (i m : Nat) : (setsV S).setIfInBounds i (.int .i64 (m : Nat)) = setsV (S.set i m) := by
  unfold setsV; rw [List.map_set]; simp
structure IsSets (S : List Nat) (n : Nat) (f : Nat → Nat → Bool) : Prop where
  len : S.length = n
  low : ∀ a, a < n → S.getD a 0 < 512
  bit : ∀ a b, a < n → (S.getD a 0).testBit b = f a b
theorem IsSets.same {S : List Nat} {n : Nat} {f f' : Nat → Nat → Bool} (h : IsSets S n f) (he : ∀ a b, a < n → f a b = f' a b) : IsSets S n f' :=
  ⟨h.len, h.low, fun a b ha => by rw [h.bit a b ha, he a b ha]⟩
theorem sets_zero {n : Nat} {f : Nat → Nat → Bool} (hf : ∀ a b, f a b = false) : IsSets (List.replicate n 0) n f :=
  ⟨List.length_replicate, fun a ha => by simp [ha], fun a b ha => by rw [hf]; simp [ha]⟩
theorem getD_set (S : List Nat) (i a m : Nat) (hi : i < S.length) : (S.set i m).getD a 0 = if a = i then m else S.getD a 0 := by
  rw [List.getD_eq_getElem?_getD, List.getElem?_set, List.getD_eq_getElem?_getD]
  by_cases h : a = i
  · subst h; simp [hi]
  · rw [if_neg (fun e => h e.symm), if_neg h]
/-- a room told -/
theorem IsSets.put {S : List Nat} {n : Nat} {f f' : Nat → Nat → Bool} (h : IsSets S n f) {x y : Nat} (hx : x < n) (hy : y < 9) (hf : ∀ a b, f' a b = if a = x ∧ b = y then true else f a b) : IsSets (S.set x (S.getD x 0 ||| 2 ^ y)) n f' := by
  have hl := h.len
  refine ⟨by rw [List.length_set]; exact hl, fun a ha => ?_, fun a b ha => ?_⟩
  · rw [getD_set _ _ _ _ (by omega)]
    split
    · have : 2 ^ y < 2 ^ 9 := Nat.pow_lt_pow_right (by omega) hy
      exact Nat.or_lt_two_pow (n := 9) (h.low x hx) this
    · exact h.low a ha
  · rw [getD_set _ _ _ _ (by omega), hf]
    by_cases hax : a = x
    · subst hax
      rw [if_pos rfl, Nat.testBit_or, h.bit a b ha, Nat.testBit_two_pow]
      by_cases hb : y = b
      · subst hb; rw [if_pos ⟨rfl, rfl⟩]; simp
      · rw [if_neg (fun e => hb e.2.symm), decide_eq_false hb, Bool.or_false]
    · rw [if_neg hax, if_neg (fun e => hax e.1)]
      exact h.bit a b ha
/-- a set taken in -/
theorem IsSets.join {S : List Nat} {n : Nat} {f f' : Nat → Nat → Bool} (h : IsSets S n f) {x y : Nat} (hx : x < n) (hy : y < n) (hf : ∀ a b, f' a b = if a = x then f x b || f y b else f a b) : IsSets (S.set x (S.getD x 0 ||| S.getD y 0)) n f' := by
  have hl := h.len
  refine ⟨by rw [List.length_set]; exact hl, fun a ha => ?_, fun a b ha => ?_⟩
  · rw [getD_set _ _ _ _ (by omega)]
    split
    · exact Nat.or_lt_two_pow (n := 9) (h.low x hx) (h.low y hy)
    · exact h.low a ha
  · rw [getD_set _ _ _ _ (by omega), hf]
    by_cases hax : a = x
    · subst hax
      rw [if_pos rfl, if_pos rfl, Nat.testBit_or, h.bit a b ha, h.bit y b hy]
    · rw [if_neg hax, if_neg hax]
      exact h.bit a b ha

/-- small numbers put together -/
theorem or_i64 (a b : Nat) (ha : a < 4294967296) (hb : b < 4294967296) : bits .or .i64 (a : Int) (b : Int) = ((a ||| b : Nat) : Int) := by
  have hx : a ||| b < 2 ^ 32 := Nat.or_lt_two_pow (by omega) (by omega)
  have h1 : (BitVec.ofInt 64 (a : Int)).toNat = a := by
    rw [BitVec.ofInt_natCast, BitVec.toNat_ofNat]; exact Nat.mod_eq_of_lt (by omega)
  have h2 : (BitVec.ofInt 64 (b : Int)).toNat = b := by
    rw [BitVec.ofInt_natCast, BitVec.toNat_ofNat]; exact Nat.mod_eq_of_lt (by omega)
  show IntKind.i64.wrap ((BitVec.ofInt 64 (a : Int) ||| BitVec.ofInt 64 (b : Int)).toNat : Int) = _
  rw [BitVec.toNat_or, h1, h2]
  simp [IntKind.wrap, IntKind.bits, IntKind.signed]
  omega
theorem and_i64 (a b : Nat) (ha : a < 4294967296) (hb : b < 4294967296) : bits .and .i64 (a : Int) (b : Int) = ((a &&& b : Nat) : Int) := by
  have hx : a &&& b < 2 ^ 32 := Nat.and_lt_two_pow _ (by omega)
  have h1 : (BitVec.ofInt 64 (a : Int)).toNat = a := by
    rw [BitVec.ofInt_natCast, BitVec.toNat_ofNat]; exact Nat.mod_eq_of_lt (by omega)
  have h2 : (BitVec.ofInt 64 (b : Int)).toNat = b := by
    rw [BitVec.ofInt_natCast, BitVec.toNat_ofNat]; exact Nat.mod_eq_of_lt (by omega)
  show IntKind.i64.wrap ((BitVec.ofInt 64 (a : Int) &&& BitVec.ofInt 64 (b : Int)).toNat : Int) = _
  rw [BitVec.toNat_and, h1, h2]
  simp [IntKind.wrap, IntKind.bits, IntKind.signed]
  omega
/-- one bit of a small number -/
theorem bit_i64 (m b : Nat) (hm : m < 512) : (bits .and .i64 ((m : Int) / 2 ^ b) 1 == 1) = m.testBit b := by
  have e1 : (m : Int) / 2 ^ b = ((m / 2 ^ b : Nat) : Int) := by
    simp
  have e2 := and_i64 (m / 2 ^ b) 1 (Nat.lt_of_le_of_lt (Nat.div_le_self _ _) (by omega)) (by omega)
  rw [e1]
  change (bits .and .i64 ((m / 2 ^ b : Nat) : Int) ((1 : Nat) : Int) == 1) = _
  rw [e2, Nat.and_one_is_mod, Nat.testBit_eq_decide_div_mod_eq]
  rw [Bool.eq_iff_iff, beq_iff_eq, decide_eq_true_eq]
  omega
end Go.Proofs.Ytpgcpmfemcfoaaa

/-
  The model's rooms just led to. (Walk.)
-/
namespace Go.Proofs.Ytpgcpmfemcfoaaa
open Go.RowKit

/-- walls as rows, of a base on -/
def WRows (w : World) (base : Nat) (ro : Option Addr) (L : List Wl) : Prop :=
  ∀ k, k < L.length → ∃ bb off gg cc, ro = some ⟨bb, off, none⟩ ∧ w.cell? ⟨bb, off + k, none⟩ = some (.slice (some ⟨gg, 0, none⟩) 4 cc) ∧ CellsAt w (some ⟨gg, 0, none⟩) ((wlN (L.getD k zeroWl)).map (Value.int .i64)) ∧ base ≤ bb ∧ base ≤ gg ∧ bb < w.heap.size ∧ gg < w.heap.size
theorem wrows_of {w : World} {base : Nat} {uo : Option Addr} {uc : Nat} {L : List Wl} {us : List Value} (h : RowsAt w base uo uc (L.map wlN) us) : WRows w base uo L := fun k hk => by
  have hl : k < (L.map wlN).length := by rw [List.length_map]; exact hk
  obtain ⟨bb, off, g, c, h1, h2, h3, h4⟩ := h.row hl (by rw [wlN_getD hk]; exact Nat.succ_pos _)
  rw [wlN_getD hk] at h2 h3
  exact ⟨bb, off, g, c, h1, h2, h3, h4⟩
theorem WRows.grown {w w' : World} {base : Nat} {ro : Option Addr} {L : List Wl} (h : WRows w base ro L) {row : Option Nat} (hg : w.grownBy w' row) (hr : ∀ k, row = some k → k < base ∨ w.heap.size ≤ k) : WRows w' base ro L := fun k hk => by
  obtain ⟨bb, off, gg, cc, h1, h2, h3, h4, h5, h6, h7⟩ := h k hk
  have n1 : some bb ≠ row := fun e => by have := hr bb e.symm; omega
  have n2 : some gg ≠ row := fun e => by have := hr gg e.symm; omega
  exact ⟨bb, off, gg, cc, h1, hg.cell h2 n1, h3.grown hg (fun a ha => by cases ha; exact n2), h4, h5, Nat.lt_of_lt_of_le h6 hg.size, Nat.lt_of_lt_of_le h7 hg.size⟩
theorem WRows.below {w w' : World} {base : Nat} {ro : Option Addr} {L : List Wl} (h : WRows w base ro L) (hb : Below w.heap.size w w') : WRows w' base ro L := h.grown (grownBy_of_below hb none) (fun k hk => by cases hk)
theorem gbCell (w : World) (b i : Nat) (v : Value) : w.grownBy (w.setCell ⟨b, i, none⟩ v) (some b) :=
  ⟨rfl, rfl, rfl, (KeepsWalks.setCell w _ v).size, fun k _ hk => Below.heap_setCell _ _ _ k (fun e => hk (by rw [e]))⟩
/-- numbers made, all nought -/
theorem held_zero {w : World} {base g n : Nat} (h : w.ownsRow base 3 1 (.slice (some ⟨g, 0, none⟩) n n) n (madeCells (Value.int .i64 0).cells (n * 1)).toList) (hn : 0 < n) : HeldB w g 3 (setsV (List.replicate n 0)) := by
  rw [show (.int .i64 0 : Value).cells = #[.int .i64 0] from rfl, Nat.mul_one, toList_madeCells_one] at h
  rcases h.2 with ⟨hv, h0⟩ | ⟨g', cap', cur, hv, hb, hg, h1, h2, h3, h4⟩
  · omega
  · simp only [Value.slice.injEq, Option.some.injEq, Addr.mk.injEq, and_true, true_and] at hv
    obtain ⟨rfl, rfl⟩ := hv
    rw [Nat.mul_one] at h3 h4
    rw [List.take_of_length_le (by rw [Array.length_toList]; omega)] at h4
    have hcur : cur = setsV (List.replicate n 0) := by
      apply Array.toList_inj.1
      rw [h4]
      simp [setsV]
    rw [← hcur]
    exact hg

theorem or_pow {S : List Nat} {x y : Nat} (hx : x < S.length) (hS : S.getD x 0 < 512) (hy : y < 9) : bits .or .i64 ((S[x] : Nat) : Int) (wrap64 (2 ^ y)) = ((S.getD x 0 ||| 2 ^ y : Nat) : Int) := by
  have h1 : 2 ^ y < 2 ^ 9 := Nat.pow_lt_pow_right (by omega) hy
  have e1 : ((2 : Int) ^ y) = ((2 ^ y : Nat) : Int) := by simp
  have e2 : wrap64 ((2 ^ y : Nat) : Int) = ((2 ^ y : Nat) : Int) := by
    generalize 2 ^ y = z at *
    unfold wrap64; omega
  have e3 : S[x] = S.getD x 0 := by simp [hx]
  rw [e1, e2, e3]
  exact or_i64 _ _ (by omega) (by omega)

/-- sets handed back -/
def SetsRet (base : Nat) (S : List Nat) (e : Ending) (w' : World) : Prop := ∃ g, base ≤ g ∧ e = .returned (.slice (some ⟨g, 0, none⟩) S.length S.length) ∧ HeldB w' g 3 (setsV S)

/-- where the model's sets lie while they are told -/
def JuSt (w : World) (ao : Option Addr) (p : List ByteArray) (ro : Option Addr) (L : List Wl) (S : List Nat) (wr : World) : Prop :=
  HeldB wr w.heap.size 3 (setsV S) ∧ WRows wr (w.heap.size + 1) ro L ∧ CellsAt wr ao (p.map Value.string) ∧ Below w.heap.size w wr ∧ w.heap.size + 1 ≤ wr.heap.size
theorem JuSt.below {w : World} {ao : Option Addr} {p : List ByteArray} {ro : Option Addr} {L : List Wl} {S : List Nat} {wr w1 : World} (h : JuSt w ao p ro L S wr) (hb : Below wr.heap.size wr w1) : JuSt w ao p ro L S w1 :=
  ⟨h.1.below hb, h.2.1.below hb, h.2.2.1.below hb, below_step h.2.2.2.1 h.2.2.2.1.size hb, Nat.le_trans h.2.2.2.2 hb.size⟩
theorem JuSt.put {w : World} {ao : Option Addr} {p : List ByteArray} (hao : ∀ a, ao = some a → a.block < w.heap.size) {ro : Option Addr} {L : List Wl} {S : List Nat} {wr : World} (h : JuSt w ao p ro L S wr) (x m : Nat) :
    JuSt w ao p ro L (S.set x m) (wr.setCell ⟨w.heap.size, x, none⟩ (.int .i64 (m : Nat))) := by
  have hg := gbCell wr w.heap.size x (.int .i64 (m : Nat))
  refine ⟨(h.1.set x _).eq (setsV_put S x m), h.2.1.grown hg (fun k hk => .inl (by have := Option.some.inj hk; omega)), h.2.2.1.grown hg (fun a ha e => by have := hao a ha; have := Option.some.inj e; omega), h.2.2.2.1.setCell (p := ⟨w.heap.size, x, none⟩) (by simp) _, Nat.le_trans h.2.2.2.2 hg.size⟩

set_option maxRecDepth 100000 in
set_option maxHeartbeats 4000000 in
theorem l5Just_any (ao : Option Addr) (cap : Nat) (p : List ByteArray) (kind : Nat) (w : World) (hl : p.length ≤ 1048576) (hs : ∀ s ∈ p, s.size ≤ 1048576) (hp : planB p = true) (hc : CellsAt w ao (p.map Value.string)) (hao : ∀ a, ao = some a → a.block < w.heap.size) :
    Calls Try.prog 127 #[.slice ao p.length cap, .int .i64 kind] w
      fun e w' => (∃ S, IsSets S (gridR p) (justG p.length (wideB p) (gridG p) kind) ∧ SetsRet w.heap.size S e w') ∧ Below w.heap.size w w' := by
  have hP := planP_of hp
  have HLR := Lib.hid (show Calls Try.prog 56 #[.slice ao p.length cap] w fun e w' => e = .returned (.int .i64 (gridR p : Nat)) ∧ w' = w by
    have := l1Rooms_any ao cap p w hl hs hc; rwa [hP.rooms] at this)
  have hr1 : 1 ≤ gridR p := by
    have h := gridG_lt (p := p) (i := 0) (j := 0) (by have := hP.grid.h1; omega) (by have := hP.grid.w1; omega)
    omega
  have hr9 := hP.few
  have HW := Lib.hid (fun (w : World) (hc : CellsAt w ao (p.map Value.string)) => by have := l2Walls_any ao cap p w hp hc; rw [wallsL_walls hp, List.length_map] at this; exact this)
  have HWL := Lib.hid (wallsP_yes hp)
  have HS2 := Lib.hid (fun (X : Wl) (hX : X ∈ wallsP p) (gw cw : Nat) (w : World) hc k0 k1 k2 k3 => show Calls Try.prog 139 #[.slice ao p.length cap, .slice (some ⟨gw, 0, none⟩) 4 cw] w
      fun e w' => TwoRet w.heap.size (aheadL (gridG p) X) (behindL (gridG p) X) e w' ∧ Below w.heap.size w w' from l2Sides_any ao cap p X gw cw w hp hX hc k0 k1 k2 k3)
  have HAR := Lib.hid (fun (X : Wl) (hX : X ∈ wallsP p) (i : Nat) hi => ahead_room (r := gridR p) (fun i j hi hj => gridG_lt hi hj) (by rwa [wallsP_yes hp] at hX) (i := i) hi)
  have HBR := Lib.hid (fun (X : Wl) (hX : X ∈ wallsP p) (i : Nat) hi => behind_room (r := gridR p) (fun i j hi hj => gridG_lt hi hj) (by rwa [wallsP_yes hp] at hX) (i := i) hi)
  have HFE := Lib.hid (fun (X : Wl) (hX : X ∈ wallsP p) => sides_few hP.grid.h6 hP.grid.w6 (by rwa [wallsP_yes hp] at hX))
  have HLE := Lib.hid (wallsP_len p)
  have HJG := Lib.hid (show justG p.length (wideB p) (gridG p) kind = justL (gridG p) kind (wallsP p) by unfold justG; rw [wallsP_yes hp])
  rw [HJG.out]
  clear HJG HWL hP
  generalize gridR p = r at *
  generalize gridG p = g at *
  generalize wallsP p = L at *
  obtain ⟨im, hmi, hmz, hm1, hm2⟩ := info_parts Try.infoNum
  have HAO := Lib.hid hao; clear hao
  have HL := Lib.hid hl; have HS := Lib.hid hs
  clear hl hs
  go_enter Try.func127, Try.ntmps127
  go_wp2_with (first
    | (go_at_call 56; refine HLR.out.mono ?_; rintro e w1 ⟨rfl, hw1⟩; have hw1 := hw1.symm; subst hw1)
    | (at_make; refine wpList_make_full _ rfl _ _ 32 rfl w.heap.size 3 im (.int .i64 0) 1 Try.underlying32 hmi hmz hm1 .i64 .i64 _ _ r rfl rfl rfl rfl ?d2 ?d3 (Nat.le_refl _) ?_; rotate_left 2; intro w2 ho2 hg2))
  have hz := held_zero ho2 (by omega)
  have hb2 : Below w.heap.size w w2 := below_of_grownBy hg2 (Nat.le_refl _) (fun k hk => by cases hk)
  have hs2 := hz.lt
  clear ho2 hg2 HLR
  case d2 => rw [hm2]; omega
  case d3 => unfold maxLen; omega
  have hc2 := hc.below hb2
  go_wp2_with (go_at_call 138; refine (HW.out _ hc2).mono ?_; rintro e w3 ⟨ro, rc, rfl, ⟨us, hus⟩, hb3⟩)
  have hs3 := hb3.size
  have st3 : JuSt w ao p ro L (List.replicate r 0) w3 := ⟨hz.below hb3, wrows_of (hus.base (base' := w.heap.size + 1) (by omega)), hc2.below hb3, below_step hb2 hb2.size hb3, by omega⟩
  have is3 : IsSets (List.replicate r 0) r (justL g kind (L.take 0)) := sets_zero (fun a b => rfl)
  clear hz hb2 hs2 hc2 hb3 hus hs3 hw1 HW
  go_loopw [7] (fun v wr => ∃ n : Nat, n ≤ L.length ∧ v = .int .i64 n ∧ ∃ S, JuSt w ao p ro L S wr ∧ IsSets S r (justL g kind (L.take n))) (fun v _ => L.length - (intOf v).toNat)
  case atStart => exact ⟨0, Nat.zero_le _, rfl, _, st3, is3⟩
  case round =>
    clear st3 is3
    obtain ⟨n, hn, rfl, S, hst, his⟩ := hrel
    have hL72 := HLE.out
    by_cases hnl : n < L.length
    · have hX : L.getD n zeroWl ∈ L := getD_mem zeroWl hnl
      have HTK := Lib.hid (take_snoc L n zeroWl hnl)
      obtain ⟨bb, off, gg, cc, hro, kk, cz, _⟩ := hst.2.1 n hnl
      subst hro
      generalize L.getD n zeroWl = X at *
      have zz : ∀ j v, (wlN X)[j]? = some v → wr.cell? ⟨gg, j, none⟩ = some (.int .i64 v) := fun j v hv => by
        obtain ⟨b', o', he, hc⟩ := cz j (.int .i64 v) (by rw [List.getElem?_map, hv]; rfl)
        simp only [Option.some.injEq, Addr.mk.injEq, and_true] at he
        obtain ⟨rfl, rfl⟩ := he
        rwa [Nat.zero_add] at hc
      have z0 := zz 0 _ rfl; have z1 := zz 1 _ rfl; have z2 := zz 2 _ rfl; have z3 := zz 3 _ rfl
      clear zz cz
      by_cases hk : X.way = kind
      · have hd : (((X.way : Nat) : Int) == (kind : Int)) = true := by rw [hk]; exact beq_self_eq_true _
        have HNX := Lib.hid (show accF g (L.take n) X (aheadL g X).length 0 kind = justL g kind (L.take (n + 1)) by rw [HTK.out, accF_all])
        have HZR := Lib.hid (show accF g (L.take n) X 0 0 kind = justL g kind (L.take n) by rw [accF_zero])
        have HSX := Lib.hid (fun gw cw w hc k0 k1 k2 k3 => HS2.out X hX gw cw w hc k0 k1 k2 k3)
        have HAX := Lib.hid (HAR.out X hX)
        have HBX := Lib.hid (HBR.out X hX)
        obtain ⟨hA6, hB6⟩ := HFE.out X hX
        have HROW := Lib.hid (fun (i : Nat) hi => show accF g (L.take n) X i (behindL g X).length kind = accF g (L.take n) X (i + 1) 0 kind by rw [accF_row (L.take n) hi])
        have HPUT := Lib.hid (fun (i j : Nat) (hi : i < (aheadL g X).length) (hj : j < (behindL g X).length) (x y : Nat) (hx : (aheadL g X).getD i 0 = (x : Int)) (hy : (behindL g X).getD j 0 = (y : Int)) (a b : Nat) => show accF g (L.take n) X i (j + 1) kind a b = if a = x ∧ b = y then true else accF g (L.take n) X i j kind a b by
          have := congrFun (congrFun (congrFun (accF_put (L.take n) hi hj hx hy) kind) a) b
          rw [← this, hk]; simp)
        go_wp2_with (go_at_call 139; refine (HSX.out gg cc _ hst.2.2.1 z0 z1 z2 z3).mono ?_; rintro e w4 ⟨⟨r0, q0, r1, q1, rfl, o0, o1, hap⟩, hb4⟩)
        have hst4 := hst.below hb4
        have cA := owns_cells o0
        have cB := owns_cells o1
        have hr0 : ∀ x, r0 = some x → x.block ≠ w.heap.size := fun x hx => by have := owns_lt o0 x hx; have := hst.2.2.2.2; omega
        have hr1 : ∀ x, r1 = some x → x.block ≠ w.heap.size := fun x hx => by have := owns_lt o1 x hx; have := hst.2.2.2.2; omega
        have HR0 := Lib.hid hr0; have HR1 := Lib.hid hr1
        rw [← HZR.out] at his
        clear hr0 hr1 hb4 o0 o1 hap hst kk z0 z1 z2 z3
        generalize HD : L.take n = T at *
        go_loopw [10] (fun v wm => ∃ i : Nat, i ≤ (aheadL g X).length ∧ v = .int .i64 i ∧ ∃ S, JuSt w ao p (some ⟨bb, off, none⟩) L S wm ∧ IsSets S r (accF g T X i 0 kind) ∧ CellsAt wm r0 ((aheadL g X).map (Value.int .i64)) ∧ CellsAt wm r1 ((behindL g X).map (Value.int .i64))) (fun v _ => (aheadL g X).length - (intOf v).toNat)
        case atStart => exact ⟨0, Nat.zero_le _, rfl, S, hst4, his, cA, cB⟩
        case round =>
          clear hst4 his cA cB
          clear S
          obtain ⟨i, hi, rfl, S, hst, his, cA, cB⟩ := hrel
          by_cases hil : i < (aheadL g X).length
          · obtain ⟨x, hx, hxr⟩ := HAX.out i hil
            go_wp2
            go_loopw [11] (fun v wm => ∃ j : Nat, j ≤ (behindL g X).length ∧ v = .int .i64 j ∧ ∃ S, JuSt w ao p (some ⟨bb, off, none⟩) L S wm ∧ IsSets S r (accF g T X i j kind) ∧ CellsAt wm r0 ((aheadL g X).map (Value.int .i64)) ∧ CellsAt wm r1 ((behindL g X).map (Value.int .i64))) (fun v _ => (behindL g X).length - (intOf v).toNat)
            case atStart => exact ⟨0, Nat.zero_le _, rfl, S, hst, his, cA, cB⟩
            case round =>
              clear hst his cA cB
              clear S
              obtain ⟨j, hj, rfl, S, hst, his, cA, cB⟩ := hrel
              by_cases hjl : j < (behindL g X).length
              · obtain ⟨y, hy, hyr⟩ := HBX.out j hjl
                obtain ⟨ab, ao', rfl, ca⟩ := cA i (.int .i64 (x : Int)) (by rw [List.getElem?_map, List.getElem?_eq_getElem hil, ← hx]; simp [hil])
                obtain ⟨bb2, bo, rfl, cb⟩ := cB j (.int .i64 (y : Int)) (by rw [List.getElem?_map, List.getElem?_eq_getElem hjl, ← hy]; simp [hjl])
                have hili : (i : Int) < ((aheadL g X).length : Int) := by omega
                have hjli : (j : Int) < ((behindL g X).length : Int) := by omega
                have hSl := his.len
                have k1 : wr.cell? ⟨w.heap.size, x, none⟩ = some (.int .i64 ((S.getD x 0 : Nat) : Int)) := (hst.1.cell x).trans (setsV_at (by omega))
                have f1 := hst.1.frozen x
                have hxS : x < S.length := by omega
                have hxSi : (x : Int) < (S.length : Int) := by omega
                have hy9 : y < 9 := by omega
                have hS512 := his.low x hxr
                have hOR := or_pow (y := y) hxS hS512 hy9
                obtain ⟨m, hm⟩ : ∃ m, m = S.getD x 0 ||| 2 ^ y := ⟨_, rfl⟩
                have hst2 := hst.put HAO.out x m
                have his2 := his.put (f' := accF g T X i (j + 1) kind) hxr hy9 (HPUT.out i j hil hjl x y hx hy)
                rw [← hm] at hOR his2
                have hgc := gbCell wr w.heap.size x (.int .i64 (m : Int))
                have cA2 := cA.grown hgc (fun z hz e => HR0.out z hz (Option.some.inj e))
                have cB2 := cB.grown hgc (fun z hz e => HR1.out z hz (Option.some.inj e))
                have HOR := Lib.hid hOR
                clear hst his hgc cA cB hOR hm
                go_wp2
                go_region
                rw [HOR.out]
                go_wp2
                go_roundw
                case rel => exact ⟨j + 1, by omega, by go_num, _, hst2.below (below_drewN _ _ 1), his2, cA2.drewN 1, cB2.drewN 1⟩
                case measure => simp [intOf]; omega
              · obtain rfl : j = (behindL g X).length := by omega
                rw [HROW.out i hil] at his
                go_wp2
                go_roundw
                case rel => exact ⟨i + 1, by omega, by go_num, S, hst, his, cA, cB⟩
                case measure => simp [intOf]; omega
          · obtain rfl : i = (aheadL g X).length := by omega
            rw [HNX.out] at his
            go_wp2
            go_roundw
            case rel => exact ⟨n + 1, by omega, by go_num, S, hst, his⟩
            case measure => simp [intOf]; omega
      · have hd : (((X.way : Nat) : Int) == (kind : Int)) = false := by rw [beq_eq_false_iff_ne]; omega
        have his2 : IsSets S r (justL g kind (L.take (n + 1))) := his.same (fun a b _ => by
          rw [HTK.out, justL_snoc]; unfold overW; rw [beq_false_of_ne hk]; simp)
        clear his
        go_wp2
        go_roundw
        case rel => exact ⟨n + 1, by omega, by go_num, S, hst, his2⟩
        case measure => simp [intOf]; omega
    · obtain rfl : n = L.length := by omega
      rw [List.take_length] at his
      have hSl := his.len
      go_wp2
      go_ret
      exact ⟨⟨S, his, w.heap.size, Nat.le_refl _, by rw [hSl]; rfl, hst.1⟩, hst.2.2.2.1⟩
end Go.Proofs.Ytpgcpmfemcfoaaa

/-
  The model's rooms led to in the end, and its answers about two rooms. (Walks.)
-/
namespace Go.Proofs.Ytpgcpmfemcfoaaa
open Go.RowKit

set_option maxRecDepth 100000 in
set_option maxHeartbeats 4000000 in
theorem l5All_any (ao : Option Addr) (cap : Nat) (p : List ByteArray) (kind : Nat) (w : World) (hl : p.length ≤ 1048576) (hs : ∀ s ∈ p, s.size ≤ 1048576) (hp : planB p = true) (hc : CellsAt w ao (p.map Value.string)) (hao : ∀ a, ao = some a → a.block < w.heap.size) :
    Calls Try.prog 103 #[.slice ao p.length cap, .int .i64 kind] w
      fun e w' => (∃ S, IsSets S (gridR p) (leadG p.length (wideB p) (gridR p) (gridG p) kind) ∧ SetsRet w.heap.size S e w') ∧ Below w.heap.size w w' := by
  have HJ := Lib.hid (l5Just_any ao cap p kind w hl hs hp hc hao)
  have HIN := Lib.hid (justG_in (h := p.length) (wd := wideB p) (r := gridR p) (g := gridG p) (fun i j hi hj => gridG_lt hi hj) kind)
  have hr9 := (planP_of hp).few
  unfold leadG
  generalize justG p.length (wideB p) (gridG p) kind = f at *
  generalize gridR p = r at *
  clear hl hs hc hao
  go_enter Try.func103, Try.ntmps103
  go_wp2_with (go_at_call 127; refine HJ.out.mono ?_; rintro e w1 ⟨⟨S, his, gb, hgb, rfl, hB⟩, hb1⟩)
  have his0 : IsSets S r (wars f 0) := his
  rw [his.len]
  clear his HJ
  go_loopw [6] (fun v wr => ∃ c : Nat, c ≤ r ∧ v = .int .i64 c ∧ ∃ S, IsSets S r (wars f c) ∧ HeldB wr gb 3 (setsV S) ∧ Below w.heap.size w wr) (fun v _ => r - (intOf v).toNat)
  case atStart => exact ⟨0, Nat.zero_le _, rfl, S, his0, hB, hb1⟩
  case round =>
    clear his0 hB hb1
    clear S
    obtain ⟨c, hc, rfl, S, his, hB, hb⟩ := hrel
    by_cases hcr : c < r
    · have his2 : IsSets S r (midF f c 0 0) := his.same (fun a b _ => (midF_zero f c a b).symm)
      clear his
      go_wp2
      go_loopw [7] (fun v wr => ∃ i : Nat, i ≤ r ∧ v = .int .i64 i ∧ ∃ S, IsSets S r (midF f c i 0) ∧ HeldB wr gb 3 (setsV S) ∧ Below w.heap.size w wr) (fun v _ => r - (intOf v).toNat)
      case atStart => exact ⟨0, Nat.zero_le _, rfl, S, his2, hB, hb⟩
      case round =>
        clear his2 hB hb
        clear S
        obtain ⟨i, hi, rfl, S, his, hB, hb⟩ := hrel
        by_cases hir : i < r
        · have hSl := his.len
          have k1 : wr.cell? ⟨gb, i, none⟩ = some (.int .i64 ((S.getD i 0 : Nat) : Int)) := (hB.cell i).trans (setsV_at (by omega))
          have k2 : wr.cell? ⟨gb, c, none⟩ = some (.int .i64 ((S.getD c 0 : Nat) : Int)) := (hB.cell c).trans (setsV_at (by omega))
          have f1 := hB.frozen i
          have hbit := bit_i64 (S.getD i 0) c (his.low i hir)
          rw [his.bit i c hir, midF_to] at hbit
          have hlow1 := his.low i hir
          have hlow2 := his.low c hcr
          have hOR := or_i64 (S.getD i 0) (S.getD c 0) (by omega) (by omega)
          have hjn := fun hw => IsSets.join (f' := midF f c (i + 1) 0) his hir hcr (fun a b => by
            by_cases hai : a = i
            · rw [if_pos hai, midF_from]
              subst hai
              unfold midF
              rw [if_pos (by omega), if_neg (by omega), wars_succ, show wars f c a c = true from hw, Bool.true_and]
            · rw [if_neg hai]
              unfold midF
              by_cases h1 : a < i ∨ a = i ∧ b < 0
              · rw [if_pos h1, if_pos (by omega)]
              · rw [if_neg h1, if_neg (by omega)])
          have hst := fun hw => his.same (f' := midF f c (i + 1) 0) (fun a b _ => by
            unfold midF
            by_cases h1 : a < i ∨ a = i ∧ b < 0
            · rw [if_pos h1, if_pos (by omega)]
            · rw [if_neg h1]
              by_cases hai : a = i
              · subst hai
                rw [if_pos (by omega), wars_succ, show wars f c a c = false from hw, Bool.false_and, Bool.or_false]
              · rw [if_neg (by omega)])
          have hput := fun m : Nat => (hB.set i (.int .i64 (m : Int))).eq (setsV_put S i m)
          have hbp := fun m : Nat => hb.setCell (p := ⟨gb, i, none⟩) hgb (.int .i64 (m : Int))
          have HJN := Lib.hid hjn; have HST := Lib.hid hst; have HPU := Lib.hid hput; have HBP := Lib.hid hbp
          clear hjn hst hput hbp
          obtain ⟨mm, hmm⟩ : ∃ mm, mm = S.getD i 0 ||| S.getD c 0 := ⟨_, rfl⟩
          rw [← hmm] at hOR HJN
          clear hmm hlow1 hlow2
          obtain ⟨m1, hm1⟩ : ∃ m1, m1 = S.getD i 0 := ⟨_, rfl⟩
          obtain ⟨m2, hm2⟩ : ∃ m2, m2 = S.getD c 0 := ⟨_, rfl⟩
          rw [← hm1] at k1 hbit hOR
          rw [← hm2] at k2 hOR
          have HOR := Lib.hid hOR
          clear hm1 hm2 hOR his
          have hiri : (i : Int) < (r : Int) := by omega
          have hcri : (c : Int) < (r : Int) := by omega
          cases hw : wars f c i c
          · rw [hw] at hbit
            have his2 := HST.out hw
            clear HST HJN
            go_wp2
            go_roundw
            case rel => exact ⟨i + 1, by omega, by go_num, S, his2, hB, hb⟩
            case measure => simp [intOf]; omega
          · rw [hw] at hbit
            have his2 := HJN.out hw
            have hB2 := HPU.out mm
            have hb2 := HBP.out mm
            clear HST HJN HPU HBP hB hb
            go_wp2
            go_region
            rw [HOR.out]
            go_wp2
            go_roundw
            case rel => exact ⟨i + 1, by omega, by go_num, _, his2, hB2.drew, hb2.drew⟩
            case measure => simp [intOf]; omega
        · obtain rfl : i = r := by omega
          have his2 : IsSets S i (wars f (c + 1)) := his.same (fun a b _ => midF_all HIN.out c a b)
          clear his
          go_wp2
          go_roundw
          case rel => exact ⟨c + 1, by omega, by go_num, S, his2, hB, hb⟩
          case measure => simp [intOf]; omega
    · obtain rfl : c = r := by omega
      have hSl := his.len
      go_wp2
      go_ret
      exact ⟨⟨S, his, gb, hgb, by rw [hSl]; rfl, hB⟩, hb⟩
end Go.Proofs.Ytpgcpmfemcfoaaa

/-
  Merged texts: OrdY OrdZ OrdC.
-/
/-
  The places of rooms in a line, and the line: the program's. (Walks.)
-/
namespace Go.Proofs.Ytpgcpmfemcfoaaa
open Go.RowKit

/-! # counting who is ahead -/
/-- the number of rooms ahead of one -/
def placeN (q : Nat → Nat → Bool) (r b : Nat) : Nat := (List.range r).countP fun a => q a b
theorem placeN_succ (q : Nat → Nat → Bool) (r b : Nat) : placeN q (r + 1) b = placeN q r b + (if q r b then 1 else 0) := by
  unfold placeN; rw [List.range_succ, List.countP_append, List.countP_singleton]
theorem placeN_le (q : Nat → Nat → Bool) (r b : Nat) : placeN q r b ≤ r := by
  unfold placeN; have := List.countP_le_length (p := fun a => q a b) (l := List.range r); rwa [List.length_range] at this
theorem placeN_lt {q : Nat → Nat → Bool} {r b : Nat} (hb : b < r) (hq : q b b = false) : placeN q r b < r := by
  rcases Nat.lt_or_ge (placeN q r b) r with h | h
  · exact h
  · exfalso
    have hall : (List.range r).countP (fun a => q a b) = (List.range r).length := by
      have := placeN_le q r b; unfold placeN at this h; rw [List.length_range]; omega
    rw [List.countP_eq_length] at hall
    have := hall b (List.mem_range.2 hb)
    rw [hq] at this; cases this
/-- the places once the first rooms, and of the next one the first pairs, are gone through -/
def placeL (q : Nat → Nat → Bool) (r i j : Nat) : List Nat := (List.range r).map fun b => placeN q i b + (if b < j ∧ q i b = true then 1 else 0)
theorem placeL_len (q : Nat → Nat → Bool) (r i j : Nat) : (placeL q r i j).length = r := by simp [placeL]
theorem placeL_at {q : Nat → Nat → Bool} {r i j b : Nat} (hb : b < r) : (placeL q r i j).getD b 0 = placeN q i b + (if b < j ∧ q i b = true then 1 else 0) := by simp [placeL, hb]
theorem placeL_zero (q : Nat → Nat → Bool) (r : Nat) : placeL q r 0 0 = List.replicate r 0 := by
  unfold placeL placeN
  simp [List.map_const']
theorem list_getD_ext {S T : List Nat} (hl : S.length = T.length) (h : ∀ b, b < S.length → S.getD b 0 = T.getD b 0) : S = T := by
  apply List.ext_getElem hl
  intro b h1 h2
  have := h b h1
  simpa [h1, h2] using this
theorem placeL_row (q : Nat → Nat → Bool) (r i : Nat) : placeL q r i r = placeL q r (i + 1) 0 := by
  apply list_getD_ext (by rw [placeL_len, placeL_len])
  intro b hb
  rw [placeL_len] at hb
  rw [placeL_at hb, placeL_at hb, placeN_succ]
  by_cases hq : q i b = true
  · rw [if_pos ⟨hb, hq⟩, if_pos hq, if_neg (by omega)]
  · rw [if_neg (fun e => hq e.2), if_neg hq, if_neg (by omega)]
theorem placeL_put {q : Nat → Nat → Bool} {r i j : Nat} (hj : j < r) (hq : q i j = true) : (placeL q r i j).set j ((placeL q r i j).getD j 0 + 1) = placeL q r i (j + 1) := by
  apply list_getD_ext (by rw [List.length_set, placeL_len, placeL_len])
  intro b hb
  rw [List.length_set, placeL_len] at hb
  rw [getD_set _ _ _ _ (by rw [placeL_len]; exact hj), placeL_at hb, placeL_at hj]
  by_cases hbj : b = j
  · subst hbj; rw [if_pos rfl, if_neg (by omega), placeL_at hb, if_pos ⟨by omega, hq⟩]
  · rw [if_neg hbj, placeL_at hb]
    by_cases h : b < j ∧ q i b = true
    · rw [if_pos h, if_pos ⟨by omega, h.2⟩]
    · rw [if_neg h, if_neg (fun e => h ⟨by omega, e.2⟩)]
theorem placeL_skip {q : Nat → Nat → Bool} {r i j : Nat} (hq : q i j = false) : placeL q r i j = placeL q r i (j + 1) := by
  apply list_getD_ext (by rw [placeL_len, placeL_len])
  intro b hb
  rw [placeL_len] at hb
  rw [placeL_at hb, placeL_at hb]
  by_cases h : b < j ∧ q i b = true
  · rw [if_pos h, if_pos ⟨by omega, h.2⟩]
  · rw [if_neg h, if_neg (fun e => ?_)]
    by_cases hbj : b = j
    · subst hbj; rw [hq] at e; cases e.2
    · exact h ⟨by omega, e.2⟩
def placesN (q : Nat → Nat → Bool) (r : Nat) : List Nat := placeL q r r 0
theorem placesN_at {q : Nat → Nat → Bool} {r b : Nat} (hb : b < r) : (placesN q r).getD b 0 = placeN q r b := by
  unfold placesN; rw [placeL_at hb, if_neg (by omega)]; rfl

/-- the line: each room at its place -/
def lineN (q : Nat → Nat → Bool) (r : Nat) : Nat → List Nat
  | 0 => List.replicate r 0
  | k + 1 => (lineN q r k).set (placeN q r k) k
theorem lineN_len (q : Nat → Nat → Bool) (r : Nat) : ∀ k, (lineN q r k).length = r
  | 0 => List.length_replicate
  | k + 1 => by rw [lineN, List.length_set]; exact lineN_len q r k
theorem lineN_lt (q : Nat → Nat → Bool) (r : Nat) : ∀ k, k ≤ r → ∀ i, i < r → (lineN q r k).getD i 0 < r
  | 0, _, i, hi => by simp [lineN, hi]; omega
  | k + 1, hk, i, hi => by
    rw [lineN]
    rcases Nat.lt_or_ge (placeN q r k) r with h | h
    · rw [getD_set _ _ _ _ (by rw [lineN_len]; exact h)]
      split
      · omega
      · exact lineN_lt q r k (by omega) i hi
    · rw [List.set_eq_of_length_le (by rw [lineN_len]; exact h)]
      exact lineN_lt q r k (by omega) i hi

theorem held_zeros {w : World} {base g n : Nat} (h : w.ownsRow base 3 1 (.slice (some ⟨g, 0, none⟩) n n) n (madeCells (Value.int .i64 0).cells (n * 1)).toList) : HeldB w g 3 (setsV (List.replicate n 0)) := by
  rw [show (.int .i64 0 : Value).cells = #[.int .i64 0] from rfl, Nat.mul_one, toList_madeCells_one] at h
  rcases h.2 with ⟨hv, h0⟩ | ⟨g', cap', cur, hv, hb, hg, h1, h2, h3, h4⟩
  · cases hv
  · simp only [Value.slice.injEq, Option.some.injEq, Addr.mk.injEq, and_true, true_and] at hv
    obtain ⟨rfl, rfl⟩ := hv
    rw [Nat.mul_one] at h3 h4
    rw [List.take_of_length_le (by rw [Array.length_toList]; omega)] at h4
    have hcur : cur = setsV (List.replicate n 0) := by
      apply Array.toList_inj.1
      rw [h4]
      simp [setsV]
    rw [← hcur]
    exact hg
/-! # the two questions -/
def firstQ (F : Nat → Nat → Nat → Bool) (a b : Nat) : Bool := F 0 a b || F 1 a b
def secondQ (F : Nat → Nat → Nat → Bool) (a b : Nat) : Bool := F 0 a b || F 1 b a
set_option maxRecDepth 100000 in
set_option maxHeartbeats 1600000 in
theorem isFirst_any {C : Array Value} (hC : C.size = 39) (F : Nat → Nat → Nat → Bool) (a b : Nat) (w : World) (ha : a < 9) (hb : b < 9) :
    Calls Try.prog 62 #[.agg (ordC C F), .int .i64 a, .int .i64 b] w fun e w' => e = .returned (.bool (firstQ F a b)) ∧ Below w.heap.size w w' := by
  have hB := HeldB.new w 52 (ordC C F)
  have hbl := below_alloc w (.cells (ordC C F) 52)
  have k1 := (hB.cell (39 + 0 * 81 + a * 9 + b)).trans (ordC_at hC F (by omega) ha hb)
  have k2 := (hB.cell (39 + 1 * 81 + a * 9 + b)).trans (ordC_at hC F (by omega) ha hb)
  rw [show 39 + 0 * 81 + a * 9 + b = 39 + a * 9 + b by omega] at k1
  rw [show 39 + 1 * 81 + a * 9 + b = 120 + a * 9 + b by omega] at k2
  unfold firstQ
  generalize ordC C F = D at *
  have ha9 : (a : Int) < 9 := by omega
  have hb9 : (b : Int) < 9 := by omega
  clear hB
  cases hx : F 0 a b
  · rw [hx] at k1
    go_enter Try.func62, Try.ntmps62
    go_wp2
    go_ret
    exact ⟨rfl, hbl⟩
  · rw [hx] at k1
    go_enter Try.func62, Try.ntmps62
    go_wp2
    go_ret
    exact ⟨rfl, hbl⟩
set_option maxRecDepth 100000 in
set_option maxHeartbeats 1600000 in
theorem isSecond_any {C : Array Value} (hC : C.size = 39) (F : Nat → Nat → Nat → Bool) (a b : Nat) (w : World) (ha : a < 9) (hb : b < 9) :
    Calls Try.prog 64 #[.agg (ordC C F), .int .i64 a, .int .i64 b] w fun e w' => e = .returned (.bool (secondQ F a b)) ∧ Below w.heap.size w w' := by
  have hB := HeldB.new w 52 (ordC C F)
  have hbl := below_alloc w (.cells (ordC C F) 52)
  have k1 := (hB.cell (39 + 0 * 81 + a * 9 + b)).trans (ordC_at hC F (by omega) ha hb)
  have k2 := (hB.cell (39 + 1 * 81 + b * 9 + a)).trans (ordC_at hC F (by omega) hb ha)
  rw [show 39 + 0 * 81 + a * 9 + b = 39 + a * 9 + b by omega] at k1
  rw [show 39 + 1 * 81 + b * 9 + a = 120 + b * 9 + a by omega] at k2
  unfold secondQ
  generalize ordC C F = D at *
  have ha9 : (a : Int) < 9 := by omega
  have hb9 : (b : Int) < 9 := by omega
  clear hB
  cases hx : F 0 a b
  · rw [hx] at k1
    go_enter Try.func64, Try.ntmps64
    go_wp2
    go_ret
    exact ⟨rfl, hbl⟩
  · rw [hx] at k1
    go_enter Try.func64, Try.ntmps64
    go_wp2
    go_ret
    exact ⟨rfl, hbl⟩

/-- where the places lie while rooms are counted -/
def PlSt (w : World) (D : Array Value) (S : List Nat) (wr : World) : Prop := HeldB wr w.heap.size 52 D ∧ HeldB wr (w.heap.size + 1) 3 (setsV S) ∧ Below w.heap.size w wr
theorem PlSt.below {w : World} {D : Array Value} {S : List Nat} {wr w1 : World} (h : PlSt w D S wr) (hb : Below wr.heap.size wr w1) : PlSt w D S w1 := ⟨h.1.below hb, h.2.1.below hb, below_step h.2.2 h.2.2.size hb⟩
theorem PlSt.put {w : World} {D : Array Value} {S T : List Nat} {wr : World} (h : PlSt w D S wr) (x m : Nat) (hT : S.set x m = T) : PlSt w D T (wr.setCell ⟨w.heap.size + 1, x, none⟩ (.int .i64 (m : Nat))) := by
  subst hT
  exact ⟨h.1.other (by simp) _, (h.2.1.set x _).eq (setsV_put S x m), h.2.2.setCell (p := ⟨w.heap.size + 1, x, none⟩) (by simp) _⟩

/-- places handed back -/
def PlRet (base : Nat) (S : List Nat) (e : Ending) (w' : World) : Prop := ∃ g, base ≤ g ∧ e = .returned (.slice (some ⟨g, 0, none⟩) S.length S.length) ∧ HeldB w' g 3 (setsV S)

set_option maxRecDepth 100000 in
set_option maxHeartbeats 4000000 in
theorem placesFirst_any (h wd r : Nat) (g : Nat → Nat → Nat) (F : Nat → Nat → Nat → Bool) (w : World) (hr : r ≤ 9) :
    Calls Try.prog 61 #[.agg (ordC (planC h wd r g) F), .func (.func 62) #[.agg (ordC (planC h wd r g) F)] #[]] w
      fun e w' => PlRet w.heap.size (placesN (firstQ F) r) e w' ∧ Below w.heap.size w w' := by
  have HQ := Lib.hid (fun (a b : Nat) (w : World) (ha : a < 9) (hb : b < 9) => isFirst_any (planC_size h wd r g) F a b w ha hb)
  have hD2 : (ordC (planC h wd r g) F)[2]? = some (.int .i64 (r : Nat)) := by rw [ordC_lo F (by rw [planC_size]; omega), planC_2]
  obtain ⟨im, hmi, hmz, hm1, hm2⟩ := info_parts Try.infoNum
  unfold placesN
  have HSK := Lib.hid (fun i j hq => placeL_skip (q := firstQ F) (r := r) (i := i) (j := j) hq)
  have HPU := Lib.hid (fun i j hj hq => placeL_put (q := firstQ F) (r := r) (i := i) (j := j) hj hq)
  have HROW := Lib.hid (fun i => placeL_row (firstQ F) r i)
  have HZE := Lib.hid (placeL_zero (firstQ F) r)
  have HAT := Lib.hid (fun i j b (hb : b < r) => placeL_at (q := firstQ F) (r := r) (i := i) (j := j) hb)
  have HPL := Lib.hid (fun i b => placeN_le (firstQ F) i b)
  generalize firstQ F = q at *
  generalize ordC (planC h wd r g) F = D at *
  have hB0 := HeldB.new w 52 D
  have c2 : (w.alloc (.cells D 52)).cell? ⟨w.heap.size, 2, none⟩ = some (.int .i64 (r : Nat)) := (hB0.cell 2).trans hD2
  have HD2 := Lib.hid hD2; clear hD2
  go_enter Try.func61, Try.ntmps61
  go_wp2_with (at_make; refine wpList_make_full _ rfl _ _ 32 rfl w.heap.size 3 im (.int .i64 0) 1 Try.underlying32 hmi hmz hm1 .i64 .i64 _ _ r rfl rfl rfl rfl ?d2 ?d3 (by simp) ?_; rotate_left 2; intro w2 ho2 hg2; have hb2 : Below (w.alloc (.cells D 52)).heap.size (w.alloc (.cells D 52)) w2 := below_of_grownBy hg2 (Nat.le_refl _) (fun k hk => by cases hk); have hz := held_zeros ho2; rw [World.size_alloc] at hz; have hB2 := hB0.below hb2; have c3 : w2.cell? ⟨w.heap.size, 2, none⟩ = some (.int .i64 (r : Nat)) := (hB2.cell 2).trans HD2.out)
  case d2 => rw [hm2]; omega
  case d3 => unfold maxLen; omega
  have st2 : PlSt w D (placeL q r 0 0) w2 := ⟨hB2, by rw [HZE.out]; exact hz, (below_alloc w (.cells D 52)).trans (hb2.mono (by simp))⟩
  clear hz hB2 c3 hb2 ho2 hg2 hB0 c2
  go_loopw [15] (fun v wr => ∃ i : Nat, i ≤ r ∧ v = .int .i64 i ∧ PlSt w D (placeL q r i 0) wr) (fun v _ => r - (intOf v).toNat)
  case atStart => exact ⟨0, Nat.zero_le _, rfl, st2⟩
  case round =>
    clear st2
    obtain ⟨i, hi, rfl, hst⟩ := hrel
    by_cases hir : i < r
    · have c3 : wr.cell? ⟨w.heap.size, 2, none⟩ = some (.int .i64 (r : Nat)) := (hst.1.cell 2).trans HD2.out
      go_wp2
      clear c3
      go_loopw [21] (fun v wr => ∃ j : Nat, j ≤ r ∧ v = .int .i64 j ∧ PlSt w D (placeL q r i j) wr) (fun v _ => r - (intOf v).toNat)
      case atStart => exact ⟨0, Nat.zero_le _, rfl, hst⟩
      case round =>
        clear hst
        obtain ⟨j, hj, rfl, hst⟩ := hrel
        by_cases hjr : j < r
        · have HQ2 := Lib.hid (fun w => HQ.out i j w (by omega) (by omega))
          cases hq : q i j
          · rw [hq] at HQ2
            go_wp2_with (go_at_call 62; refine (HQ2.out _).mono ?_; rintro e w3 ⟨rfl, hb3⟩; have hst3 := hst.below hb3; rw [HSK.out i j hq] at hst3)
            go_roundw
            case rel => exact ⟨j + 1, by omega, by go_num, hst3⟩
            case measure => simp [intOf]; omega
          · rw [hq] at HQ2
            have hv : (placeL q r i j).getD j 0 ≤ 9 := by
              rw [HAT.out i j j hjr, if_neg (by omega)]; have := HPL.out i j; omega
            have hlj : j < (placeL q r i j).length := by rw [placeL_len]; exact hjr
            have hlji : (j : Int) < (r : Int) := by omega
            have HP2 := Lib.hid (HPU.out i j hjr hq)
            have HL := Lib.hid (placeL_len q r i j)
            obtain ⟨m, hm⟩ : ∃ m, m = (placeL q r i j).getD j 0 := ⟨_, rfl⟩
            rw [← hm] at hv HP2
            have k0 := setsV_at hlj
            rw [← hm] at k0
            generalize placeL q r i j = S at *
            clear hm
            go_wp2_with (go_at_call 62; refine (HQ2.out _).mono ?_; rintro e w3 ⟨rfl, hb3⟩; have hst3 := hst.below hb3; have k3 : w3.cell? ⟨w.heap.size + 1, j, none⟩ = some (.int .i64 (m : Nat)) := (hst3.2.1.cell j).trans k0; have f3 := hst3.2.1.frozen j)
            have hst4 := hst3.put j (m + 1) HP2.out
            rw [show ((m + 1 : Nat) : Int) = (m : Int) + 1 by omega] at hst4
            go_roundw
            case rel => exact ⟨j + 1, by omega, by go_num, hst4⟩
            case measure => simp [intOf]; omega
        · obtain rfl : j = r := by omega
          rw [HROW.out i] at hst
          go_wp2
          go_roundw
          case rel => exact ⟨i + 1, by omega, by go_num, hst⟩
          case measure => simp [intOf]; omega
    · obtain rfl : i = r := by omega
      have hlen : (placeL q i i 0).length = i := placeL_len _ _ _ _
      go_wp2
      go_ret
      exact ⟨⟨w.heap.size + 1, by omega, by rw [hlen]; rfl, hst.2.1⟩, hst.2.2⟩

set_option maxRecDepth 100000 in
set_option maxHeartbeats 4000000 in
theorem placesSecond_any (h wd r : Nat) (g : Nat → Nat → Nat) (F : Nat → Nat → Nat → Bool) (w : World) (hr : r ≤ 9) :
    Calls Try.prog 61 #[.agg (ordC (planC h wd r g) F), .func (.func 64) #[.agg (ordC (planC h wd r g) F)] #[]] w
      fun e w' => PlRet w.heap.size (placesN (secondQ F) r) e w' ∧ Below w.heap.size w w' := by
  have HQ := Lib.hid (fun (a b : Nat) (w : World) (ha : a < 9) (hb : b < 9) => isSecond_any (planC_size h wd r g) F a b w ha hb)
  have hD2 : (ordC (planC h wd r g) F)[2]? = some (.int .i64 (r : Nat)) := by rw [ordC_lo F (by rw [planC_size]; omega), planC_2]
  obtain ⟨im, hmi, hmz, hm1, hm2⟩ := info_parts Try.infoNum
  unfold placesN
  have HSK := Lib.hid (fun i j hq => placeL_skip (q := secondQ F) (r := r) (i := i) (j := j) hq)
  have HPU := Lib.hid (fun i j hj hq => placeL_put (q := secondQ F) (r := r) (i := i) (j := j) hj hq)
  have HROW := Lib.hid (fun i => placeL_row (secondQ F) r i)
  have HZE := Lib.hid (placeL_zero (secondQ F) r)
  have HAT := Lib.hid (fun i j b (hb : b < r) => placeL_at (q := secondQ F) (r := r) (i := i) (j := j) hb)
  have HPL := Lib.hid (fun i b => placeN_le (secondQ F) i b)
  generalize secondQ F = q at *
  generalize ordC (planC h wd r g) F = D at *
  have hB0 := HeldB.new w 52 D
  have c2 : (w.alloc (.cells D 52)).cell? ⟨w.heap.size, 2, none⟩ = some (.int .i64 (r : Nat)) := (hB0.cell 2).trans hD2
  have HD2 := Lib.hid hD2; clear hD2
  go_enter Try.func61, Try.ntmps61
  go_wp2_with (at_make; refine wpList_make_full _ rfl _ _ 32 rfl w.heap.size 3 im (.int .i64 0) 1 Try.underlying32 hmi hmz hm1 .i64 .i64 _ _ r rfl rfl rfl rfl ?d2 ?d3 (by simp) ?_; rotate_left 2; intro w2 ho2 hg2; have hb2 : Below (w.alloc (.cells D 52)).heap.size (w.alloc (.cells D 52)) w2 := below_of_grownBy hg2 (Nat.le_refl _) (fun k hk => by cases hk); have hz := held_zeros ho2; rw [World.size_alloc] at hz; have hB2 := hB0.below hb2; have c3 : w2.cell? ⟨w.heap.size, 2, none⟩ = some (.int .i64 (r : Nat)) := (hB2.cell 2).trans HD2.out)
  case d2 => rw [hm2]; omega
  case d3 => unfold maxLen; omega
  have st2 : PlSt w D (placeL q r 0 0) w2 := ⟨hB2, by rw [HZE.out]; exact hz, (below_alloc w (.cells D 52)).trans (hb2.mono (by simp))⟩
  clear hz hB2 c3 hb2 ho2 hg2 hB0 c2
  go_loopw [15] (fun v wr => ∃ i : Nat, i ≤ r ∧ v = .int .i64 i ∧ PlSt w D (placeL q r i 0) wr) (fun v _ => r - (intOf v).toNat)
  case atStart => exact ⟨0, Nat.zero_le _, rfl, st2⟩
  case round =>
    clear st2
    obtain ⟨i, hi, rfl, hst⟩ := hrel
    by_cases hir : i < r
    · have c3 : wr.cell? ⟨w.heap.size, 2, none⟩ = some (.int .i64 (r : Nat)) := (hst.1.cell 2).trans HD2.out
      go_wp2
      clear c3
      go_loopw [21] (fun v wr => ∃ j : Nat, j ≤ r ∧ v = .int .i64 j ∧ PlSt w D (placeL q r i j) wr) (fun v _ => r - (intOf v).toNat)
      case atStart => exact ⟨0, Nat.zero_le _, rfl, hst⟩
      case round =>
        clear hst
        obtain ⟨j, hj, rfl, hst⟩ := hrel
        by_cases hjr : j < r
        · have HQ2 := Lib.hid (fun w => HQ.out i j w (by omega) (by omega))
          cases hq : q i j
          · rw [hq] at HQ2
            go_wp2_with (go_at_call 64; refine (HQ2.out _).mono ?_; rintro e w3 ⟨rfl, hb3⟩; have hst3 := hst.below hb3; rw [HSK.out i j hq] at hst3)
            go_roundw
            case rel => exact ⟨j + 1, by omega, by go_num, hst3⟩
            case measure => simp [intOf]; omega
          · rw [hq] at HQ2
            have hv : (placeL q r i j).getD j 0 ≤ 9 := by
              rw [HAT.out i j j hjr, if_neg (by omega)]; have := HPL.out i j; omega
            have hlj : j < (placeL q r i j).length := by rw [placeL_len]; exact hjr
            have hlji : (j : Int) < (r : Int) := by omega
            have HP2 := Lib.hid (HPU.out i j hjr hq)
            have HL := Lib.hid (placeL_len q r i j)
            obtain ⟨m, hm⟩ : ∃ m, m = (placeL q r i j).getD j 0 := ⟨_, rfl⟩
            rw [← hm] at hv HP2
            have k0 := setsV_at hlj
            rw [← hm] at k0
            generalize placeL q r i j = S at *
            clear hm
            go_wp2_with (go_at_call 64; refine (HQ2.out _).mono ?_; rintro e w3 ⟨rfl, hb3⟩; have hst3 := hst.below hb3; have k3 : w3.cell? ⟨w.heap.size + 1, j, none⟩ = some (.int .i64 (m : Nat)) := (hst3.2.1.cell j).trans k0; have f3 := hst3.2.1.frozen j)
            have hst4 := hst3.put j (m + 1) HP2.out
            rw [show ((m + 1 : Nat) : Int) = (m : Int) + 1 by omega] at hst4
            go_roundw
            case rel => exact ⟨j + 1, by omega, by go_num, hst4⟩
            case measure => simp [intOf]; omega
        · obtain rfl : j = r := by omega
          rw [HROW.out i] at hst
          go_wp2
          go_roundw
          case rel => exact ⟨i + 1, by omega, by go_num, hst⟩
          case measure => simp [intOf]; omega
    · obtain rfl : i = r := by omega
      have hlen : (placeL q i i 0).length = i := placeL_len _ _ _ _
      go_wp2
      go_ret
      exact ⟨⟨w.heap.size + 1, by omega, by rw [hlen]; rfl, hst.2.1⟩, hst.2.2⟩
end Go.Proofs.Ytpgcpmfemcfoaaa

/-
  The line of rooms, and the program's first and second orders. (Walks.)
-/
namespace Go.Proofs.Ytpgcpmfemcfoaaa
open Go.RowKit

/-- where the line lies while it is laid -/
def LiSt (w : World) (gp : Nat) (P S : List Nat) (wr : World) : Prop := HeldB wr (w.heap.size + 1) 3 (setsV S) ∧ HeldB wr gp 3 (setsV P) ∧ Below w.heap.size w wr
theorem LiSt.put {w : World} {gp : Nat} {P S T : List Nat} {wr : World} (hgp : w.heap.size + 1 < gp) (h : LiSt w gp P S wr) (x m : Nat) (hT : S.set x m = T) : LiSt w gp P T (wr.setCell ⟨w.heap.size + 1, x, none⟩ (.int .i64 (m : Nat))) := by
  subst hT
  exact ⟨(h.1.set x _).eq (setsV_put S x m), h.2.1.other (by simp; omega) _, h.2.2.setCell (p := ⟨w.heap.size + 1, x, none⟩) (by simp) _⟩

set_option maxRecDepth 100000 in
set_option maxHeartbeats 4000000 in
theorem lineSecond_any (h wd r : Nat) (g : Nat → Nat → Nat) (F : Nat → Nat → Nat → Bool) (w : World) (hr : r ≤ 9) (hirr : ∀ b, b < r → secondQ F b b = false) :
    Calls Try.prog 63 #[.agg (ordC (planC h wd r g) F), .func (.func 64) #[.agg (ordC (planC h wd r g) F)] #[]] w
      fun e w' => PlRet w.heap.size (lineN (secondQ F) r r) e w' ∧ Below w.heap.size w w' := by
  have HPA := Lib.hid (fun w => placesSecond_any h wd r g F w hr)
  have hD2 : (ordC (planC h wd r g) F)[2]? = some (.int .i64 (r : Nat)) := by rw [ordC_lo F (by rw [planC_size]; omega), planC_2]
  have HDI := Lib.hid (ord_info (planC_size h wd r g) F)
  obtain ⟨im, hmi, hmz, hm1, hm2⟩ := info_parts Try.infoNum
  have HLT := Lib.hid (fun b (hb : b < r) => placeN_lt hb (hirr b hb))
  have HAT := Lib.hid (fun b (hb : b < r) => placesN_at (q := secondQ F) (r := r) hb)
  have HPL := Lib.hid (show (placesN (secondQ F) r).length = r from placeL_len _ _ _ _)
  have HLE := Lib.hid (fun k => lineN_len (secondQ F) r k)
  have HL0 := Lib.hid (show lineN (secondQ F) r 0 = List.replicate r 0 from rfl)
  have HLS := Lib.hid (fun k => show (lineN (secondQ F) r k).set (placeN (secondQ F) r k) k = lineN (secondQ F) r (k + 1) from rfl)
  clear hirr
  generalize secondQ F = q at *
  generalize ordC (planC h wd r g) F = D at *
  have hB0 := HeldB.new w 52 D
  have c2 : (w.alloc (.cells D 52)).cell? ⟨w.heap.size, 2, none⟩ = some (.int .i64 (r : Nat)) := (hB0.cell 2).trans hD2
  clear hD2
  go_enter Try.func63, Try.ntmps63
  go_wp2_with (first
    | (at_make; refine wpList_make_full _ rfl _ _ 32 rfl w.heap.size 3 im (.int .i64 0) 1 Try.underlying32 hmi hmz hm1 .i64 .i64 _ _ r rfl rfl rfl rfl ?d2 ?d3 (by simp) ?_; rotate_left 2; intro w2 ho2 hg2; have hb2 : Below (w.alloc (.cells D 52)).heap.size (w.alloc (.cells D 52)) w2 := below_of_grownBy hg2 (Nat.le_refl _) (fun k hk => by cases hk); have hz := held_zeros ho2; rw [World.size_alloc] at hz; have hB2 := hB0.below hb2)
    | (refine wpList_load_row rfl 52 _ rfl w.heap.size rfl 52 D (0, 0) _ hB2 Try.underlying52 rfl HDI.out ?_)
    | (go_at_call 61; refine (HPA.out _).mono ?_; rintro e w3 ⟨⟨gp, hgp, rfl, hP⟩, hb3⟩))
  case d2 => rw [hm2]; omega
  case d3 => unfold maxLen; omega
  have hs2 := hz.lt
  have hgp2 : w.heap.size + 1 < gp := by omega
  have st3 : LiSt w gp (placesN q r) (lineN q r 0) w3 := ⟨by rw [HL0.out]; exact hz.below hb3, hP, below_step ((below_alloc w (.cells D 52)).trans (hb2.mono (by simp))) (by omega) hb3⟩
  rw [HPL.out]
  clear hz hB2 hb2 ho2 hg2 hB0 c2 hs2 hP hb3 hgp HPA
  go_loopw [16] (fun v wr => ∃ k : Nat, k ≤ r ∧ v = .int .i64 k ∧ LiSt w gp (placesN q r) (lineN q r k) wr) (fun v _ => r - (intOf v).toNat)
  case atStart => exact ⟨0, Nat.zero_le _, rfl, st3⟩
  case round =>
    clear st3
    obtain ⟨k, hk, rfl, hst⟩ := hrel
    by_cases hkr : k < r
    · have hpk := HAT.out k hkr
      have hlt := HLT.out k hkr
      have hkl : k < (placesN q r).length := by rw [HPL.out]; exact hkr
      have k1 : wr.cell? ⟨gp, k, none⟩ = some (.int .i64 ((placesN q r).getD k 0 : Nat)) := (hst.2.1.cell k).trans (setsV_at hkl)
      rw [hpk] at k1
      have hll := HLE.out k
      have hst2 := hst.put hgp2 (placeN q r k) k (HLS.out k)
      have f1 := hst.1.frozen (placeN q r k)
      have k2 : wr.cell? ⟨w.heap.size + 1, placeN q r k, none⟩ = some (.int .i64 ((lineN q r k).getD (placeN q r k) 0 : Nat)) := (hst.1.cell _).trans (setsV_at (by rw [hll]; exact hlt))
      have hkri : (k : Int) < (r : Int) := by omega
      have hlti : ((placeN q r k : Nat) : Int) < (r : Int) := by omega
      generalize (lineN q r k).getD (placeN q r k) 0 = z at *
      generalize placeN q r k = y at *
      clear hst
      go_wp2
      go_roundw
      case rel => exact ⟨k + 1, by omega, by go_num, hst2⟩
      case measure => simp [intOf]; omega
    · obtain rfl : k = r := by omega
      have hlen := HLE.out k
      go_wp2
      go_ret
      exact ⟨⟨w.heap.size + 1, by omega, by rw [hlen]; rfl, hst.1⟩, hst.2.2⟩

theorem oF_yes {p : List ByteArray} (h : plainB p = true) : oF p = pL p := by unfold oF; rw [if_pos h]; rfl
theorem firstQ_irr (p : List ByteArray) : ∀ b, b < oR p → firstQ (oF p) b b = false := fun b hb => by
  cases h : plainB p
  · unfold oR at hb; rw [h] at hb; simp at hb
  · have hb2 : b < gridR p := by unfold oR at hb; rwa [if_pos h] at hb
    rw [oF_yes h]; unfold firstQ
    rw [pL_self h hb2 0 (by omega), pL_self h hb2 1 (by omega)]; rfl
theorem secondQ_irr (p : List ByteArray) : ∀ b, b < oR p → secondQ (oF p) b b = false := fun b hb => by
  cases h : plainB p
  · unfold oR at hb; rw [h] at hb; simp at hb
  · have hb2 : b < gridR p := by unfold oR at hb; rwa [if_pos h] at hb
    rw [oF_yes h]; unfold secondQ
    rw [pL_self h hb2 0 (by omega), pL_self h hb2 1 (by omega)]; rfl
/-- whole numbers of naturals -/
def intsL (S : List Nat) : List Int := S.map fun m => ((m : Nat) : Int)
theorem intsL_len (S : List Nat) : (intsL S).length = S.length := by simp [intsL]
def firstL (p : List ByteArray) : List Nat := lineN (firstQ (oF p)) (oR p) (oR p)
def secondL (p : List ByteArray) : List Nat := lineN (secondQ (oF p)) (oR p) (oR p)
end Go.Proofs.Ytpgcpmfemcfoaaa

/-
  The permutation of an order: what it is, and the program's. (Plain mathematics, and walks.)
-/
namespace Go.Proofs.Ytpgcpmfemcfoaaa
open Go.RowKit

/-- a question that puts the first numbers into a line -/
structure Lin (q : Nat → Nat → Bool) (r : Nat) : Prop where
  irr : ∀ a, a < r → q a a = false
  all : ∀ a b, a < r → b < r → a ≠ b → q a b = true ∨ q b a = true
  trans : ∀ a b c, a < r → b < r → c < r → q a b = true → q b c = true → q a c = true
theorem cnt_le {p p' : Nat → Bool} : ∀ n, (∀ x, x < n → p x = true → p' x = true) → (List.range n).countP p ≤ (List.range n).countP p'
  | 0, _ => Nat.le_refl _
  | n + 1, h => by
    have ih := cnt_le n (fun x hx => h x (by omega))
    have hn := h n (by omega)
    rw [List.range_succ, List.countP_append, List.countP_append, List.countP_singleton, List.countP_singleton]
    cases hp : p n
    · simp; omega
    · rw [hn hp]; simp; omega
theorem cnt_lt {p p' : Nat → Bool} {a : Nat} (ha2 : p' a = true) (ha1 : p a = false) : ∀ n, a < n → (∀ x, x < n → p x = true → p' x = true) → (List.range n).countP p < (List.range n).countP p'
  | 0, ha, _ => by omega
  | n + 1, ha, h => by
    have hn := h n (by omega)
    have hle := cnt_le (p := p) (p' := p') n (fun x hx => h x (by omega))
    rw [List.range_succ, List.countP_append, List.countP_append, List.countP_singleton, List.countP_singleton]
    by_cases hna : a = n
    · subst hna; rw [ha1, ha2]; simp; omega
    · have ih := cnt_lt ha2 ha1 n (by omega) (fun x hx => h x (by omega))
      cases hp : p n
      · simp; omega
      · rw [hn hp]; simp; omega
theorem Lin.mono {q : Nat → Nat → Bool} {r a b : Nat} (L : Lin q r) (ha : a < r) (hb : b < r) (h : q a b = true) : placeN q r a < placeN q r b :=
  cnt_lt (p := fun x => q x a) (p' := fun x => q x b) (a := a) h (L.irr a ha) r ha (fun x hx hxa => L.trans x a b hx ha hb hxa h)
theorem Lin.inj {q : Nat → Nat → Bool} {r a b : Nat} (L : Lin q r) (ha : a < r) (hb : b < r) (h : placeN q r a = placeN q r b) : a = b := by
  rcases Nat.decEq a b with hne | he
  · rcases L.all a b ha hb hne with h1 | h1
    · have := L.mono ha hb h1; omega
    · have := L.mono hb ha h1; omega
  · exact he
theorem Lin.lt {q : Nat → Nat → Bool} {r a : Nat} (L : Lin q r) (ha : a < r) : placeN q r a < r := placeN_lt ha (L.irr a ha)
theorem Lin.surj {q : Nat → Nat → Bool} {r k : Nat} (L : Lin q r) (hk : k < r) : ∃ x, x < r ∧ placeN q r x = k := by
  by_cases h : ∃ x, x < r ∧ placeN q r x = k
  · exact h
  · exfalso
    have hn : (k :: (List.range r).map (placeN q r)).Nodup := by
      rw [List.nodup_cons]
      refine ⟨fun hm => ?_, ?_⟩
      · obtain ⟨x, hx, e⟩ := List.mem_map.1 hm
        exact h ⟨x, List.mem_range.1 hx, e⟩
      · unfold List.Nodup
        rw [List.pairwise_map]
        refine List.Pairwise.imp_of_mem ?_ List.pairwise_lt_range
        intro a b ha hb hab e
        have := L.inj (List.mem_range.1 ha) (List.mem_range.1 hb) e
        omega
    have := nodup_lt r _ hn (fun x hx => by
      rw [List.mem_cons] at hx
      rcases hx with rfl | hx
      · exact hk
      · obtain ⟨y, hy, rfl⟩ := List.mem_map.1 hx
        exact L.lt (List.mem_range.1 hy))
    simp at this
    omega
theorem Lin.line_at {q : Nat → Nat → Bool} {r : Nat} (L : Lin q r) : ∀ k, k ≤ r → ∀ x, x < k → (lineN q r k).getD (placeN q r x) 0 = x
  | 0, _, x, hx => by omega
  | k + 1, hk, x, hx => by
    rw [lineN, getD_set _ _ _ _ (by rw [lineN_len]; exact L.lt (by omega))]
    by_cases he : placeN q r x = placeN q r k
    · rw [if_pos he]; exact (L.inj (by omega) (by omega) he).symm
    · rw [if_neg he]
      refine L.line_at k (by omega) x ?_
      rcases Nat.lt_or_ge x k with h | h
      · exact h
      · obtain rfl : x = k := by omega
        exact absurd rfl he
theorem Lin.line {q : Nat → Nat → Bool} {r x : Nat} (L : Lin q r) (hx : x < r) : (lineN q r r).getD (placeN q r x) 0 = x := L.line_at r (Nat.le_refl _) x hx
/-- the room at a place has that place -/
theorem Lin.back {q : Nat → Nat → Bool} {r k : Nat} (L : Lin q r) (hk : k < r) : placeN q r ((lineN q r r).getD k 0) = k ∧ (lineN q r r).getD k 0 < r := by
  obtain ⟨x, hx, e⟩ := L.surj hk
  have := L.line hx
  rw [e] at this
  rw [this]
  exact ⟨e, hx⟩

/-- the permutation: the place in one line of each room of the other one -/
def permQ (q1 q2 : Nat → Nat → Bool) (r : Nat) : List Nat := (List.range r).map fun i => placeN q1 r ((lineN q2 r r).getD i 0)
def permK (q1 q2 : Nat → Nat → Bool) (r k : Nat) : List Nat := (List.range r).map fun i => if i < k then placeN q1 r ((lineN q2 r r).getD i 0) else (lineN q2 r r).getD i 0
theorem permQ_len (q1 q2 : Nat → Nat → Bool) (r : Nat) : (permQ q1 q2 r).length = r := by simp [permQ]
theorem permK_len (q1 q2 : Nat → Nat → Bool) (r k : Nat) : (permK q1 q2 r k).length = r := by simp [permK]
theorem permK_at {q1 q2 : Nat → Nat → Bool} {r k i : Nat} (hi : i < r) : (permK q1 q2 r k).getD i 0 = if i < k then placeN q1 r ((lineN q2 r r).getD i 0) else (lineN q2 r r).getD i 0 := by simp [permK, hi]
theorem permK_zero (q1 q2 : Nat → Nat → Bool) (r : Nat) : permK q1 q2 r 0 = lineN q2 r r := by
  apply list_getD_ext (by rw [permK_len, lineN_len])
  intro i hi
  rw [permK_len] at hi
  rw [permK_at hi, if_neg (by omega)]
theorem permK_all (q1 q2 : Nat → Nat → Bool) (r : Nat) : permK q1 q2 r r = permQ q1 q2 r := by
  unfold permK permQ
  refine List.map_congr_left fun i hi => ?_
  rw [if_pos (List.mem_range.1 hi)]
theorem permK_put {q1 q2 : Nat → Nat → Bool} {r k : Nat} (hk : k < r) : (permK q1 q2 r k).set k (placeN q1 r ((lineN q2 r r).getD k 0)) = permK q1 q2 r (k + 1) := by
  apply list_getD_ext (by rw [List.length_set, permK_len, permK_len])
  intro i hi
  rw [List.length_set, permK_len] at hi
  rw [getD_set _ _ _ _ (by rw [permK_len]; exact hk), permK_at hi, permK_at hi]
  by_cases hik : i = k
  · subst hik; rw [if_pos rfl, if_pos (by omega)]
  · rw [if_neg hik]
    by_cases h : i < k
    · rw [if_pos h, if_pos (by omega)]
    · rw [if_neg h, if_neg (by omega)]

/-- where the permutation lies while it is made -/
def PeSt (w : World) (g1 g2 : Nat) (P S : List Nat) (wr : World) : Prop := HeldB wr g1 3 (setsV P) ∧ HeldB wr g2 3 (setsV S) ∧ Below w.heap.size w wr
theorem PeSt.put {w : World} {g1 g2 : Nat} {P S T : List Nat} {wr : World} (h1 : g1 ≠ g2) (h2 : w.heap.size ≤ g2) (h : PeSt w g1 g2 P S wr) (x m : Nat) (hT : S.set x m = T) : PeSt w g1 g2 P T (wr.setCell ⟨g2, x, none⟩ (.int .i64 (m : Nat))) := by
  subst hT
  exact ⟨h.1.other h1 _, (h.2.1.set x _).eq (setsV_put S x m), h.2.2.setCell (p := ⟨g2, x, none⟩) h2 _⟩

set_option maxRecDepth 100000 in
set_option maxHeartbeats 4000000 in
theorem perm_any (h wd r : Nat) (g : Nat → Nat → Nat) (F : Nat → Nat → Nat → Bool) (w : World) (hr : r ≤ 9) (h2 : ∀ b, b < r → secondQ F b b = false) :
    Calls Try.prog 31 #[.agg (ordC (planC h wd r g) F)] w
      fun e w' => PlRet w.heap.size (permQ (firstQ F) (secondQ F) r) e w' ∧ Below w.heap.size w w' := by
  have HPA := Lib.hid (fun w => placesFirst_any h wd r g F w hr)
  have HLI := Lib.hid (fun w => lineSecond_any h wd r g F w hr h2)
  have HDI := Lib.hid (ord_info (planC_size h wd r g) F)
  have HLT := Lib.hid (fun i (hi : i < r) => lineN_lt (secondQ F) r r (Nat.le_refl _) i hi)
  have HAT := Lib.hid (fun b (hb : b < r) => placesN_at (q := firstQ F) (r := r) hb)
  have HPL := Lib.hid (show (placesN (firstQ F) r).length = r from placeL_len _ _ _ _)
  have HLE := Lib.hid (fun k => permK_len (firstQ F) (secondQ F) r k)
  have HL0 := Lib.hid (permK_zero (firstQ F) (secondQ F) r)
  have HLA := Lib.hid (permK_all (firstQ F) (secondQ F) r)
  have HLS := Lib.hid (fun k (hk : k < r) => permK_put (q1 := firstQ F) (q2 := secondQ F) hk)
  have HKA := Lib.hid (fun k (hk : k < r) => show (permK (firstQ F) (secondQ F) r k).getD k 0 = (lineN (secondQ F) r r).getD k 0 by rw [permK_at hk, if_neg (by omega)])
  have HLL := Lib.hid (lineN_len (secondQ F) r r)
  clear h2
  generalize firstQ F = q at *
  generalize secondQ F = q2 at *
  generalize ordC (planC h wd r g) F = D at *
  have hB0 := HeldB.new w 52 D
  go_enter Try.func31, Try.ntmps31
  go_wp2_with (first
    | (refine wpList_load_row rfl 52 _ rfl w.heap.size rfl 52 D (0, 0) _ hB3 Try.underlying52 rfl HDI.out ?_)
    | (refine wpList_load_row rfl 52 _ rfl w.heap.size rfl 52 D (0, 0) _ hB0 Try.underlying52 rfl HDI.out ?_)
    | (go_at_call 61; refine (HPA.out _).mono ?_; rintro e w3 ⟨⟨g1, hg1, rfl, hP⟩, hb3⟩; have hB3 := hB0.below hb3)
    | (go_at_call 63; refine (HLI.out _).mono ?_; rintro e w4 ⟨⟨g2, hg2, rfl, hL⟩, hb4⟩))
  have l1 := hP.lt
  have hs3 := hb3.size
  simp only [World.size_alloc] at hs3 hg1
  have n12 : g1 ≠ g2 := by omega
  have n0 : w.heap.size ≤ g2 := by omega
  have st3 : PeSt w g1 g2 (placesN q r) (permK q q2 r 0) w4 := ⟨hP.below hb4, by rw [HL0.out]; exact hL, below_step ((below_alloc w (.cells D 52)).trans (hb3.mono (by simp))) (by omega) hb4⟩
  rw [HPL.out, HLL.out]
  clear hB3 hB0 hP hb3 hL hb4 l1 hs3 hg1 hg2 HPA HLI
  go_loopw [17] (fun v wr => ∃ k : Nat, k ≤ r ∧ v = .int .i64 k ∧ PeSt w g1 g2 (placesN q r) (permK q q2 r k) wr) (fun v _ => r - (intOf v).toNat)
  case atStart => exact ⟨0, Nat.zero_le _, rfl, st3⟩
  case round =>
    clear st3
    obtain ⟨k, hk, rfl, hst⟩ := hrel
    by_cases hkr : k < r
    · have hll := HLE.out k
      have k1 : wr.cell? ⟨g2, k, none⟩ = some (.int .i64 ((permK q q2 r k).getD k 0 : Nat)) := (hst.2.1.cell k).trans (setsV_at (by rw [hll]; exact hkr))
      rw [HKA.out k hkr] at k1
      have hlt := HLT.out k hkr
      have hst2 := hst.put n12 n0 k _ (HLS.out k hkr)
      have f1 := hst.2.1.frozen k
      generalize (lineN q2 r r).getD k 0 = x at *
      have k2 : wr.cell? ⟨g1, x, none⟩ = some (.int .i64 ((placesN q r).getD x 0 : Nat)) := (hst.1.cell x).trans (setsV_at (by rw [HPL.out]; exact hlt))
      rw [HAT.out x hlt] at k2
      have hkri : (k : Int) < (r : Int) := by omega
      have hlti : (x : Int) < (r : Int) := by omega
      generalize placeN q r x = y at *
      clear hst
      go_wp2
      go_roundw
      case rel => exact ⟨k + 1, by omega, by go_num, hst2⟩
      case measure => simp [intOf]; omega
    · obtain rfl : k = r := by omega
      rw [HLA.out] at hst
      have hlen := permQ_len q q2 k
      go_wp2
      go_ret
      exact ⟨⟨g2, n0, by rw [hlen]; rfl, hst.2.1⟩, hst.2.2⟩

def permL (p : List ByteArray) : List Nat := permQ (firstQ (oF p)) (secondQ (oF p)) (oR p)
theorem permL_len (p : List ByteArray) : (permL p).length = oR p := permQ_len _ _ _
theorem permP_any (p : List ByteArray) (w : World) : Calls Try.prog 31 #[.agg (ordP p)] w
      fun e w' => PlRet w.heap.size (permL p) e w' ∧ Below w.heap.size w w' := perm_any (oH p) (oW p) (oR p) (oG p) (oF p) w (oR_le p) (secondQ_irr p)

end Go.Proofs.Ytpgcpmfemcfoaaa

/-
  Merged texts: OrdV OrdA OrdB OrdD.
-/
/-
  The model's answers about two rooms: left, above, the kind. (Walks.)
-/
namespace Go.Proofs.Ytpgcpmfemcfoaaa
open Go.RowKit

theorem l5Plain_any (ao : Option Addr) (cap : Nat) (p : List ByteArray) (w : World) (hl : p.length ≤ 1048576) (hs : ∀ s ∈ p, s.size ≤ 1048576) (hc : CellsAt w ao (p.map Value.string)) :
    Calls Try.prog 36 #[.slice ao p.length cap] w fun e w' => e = .returned (.bool (plainB p)) ∧ Below w.heap.size w w' := by
  have HP := Lib.hid (fun w hc => specWallPlain_any ao cap p w hl hs hc)
  unfold plainB
  generalize (planB p && decide (meetN p 4 = 0)) = x at *
  go_enter Try.func36, Try.ntmps36
  go_wp2_with (go_at_call 59; refine (HP.out _ hc).mono ?_; rintro e w1 ⟨rfl, hb1⟩)
  go_ret
  exact ⟨rfl, hb1⟩
theorem block_in {w : World} {ao : Option Addr} {p : List ByteArray} (hp : planB p = true) (hc : CellsAt w ao (p.map Value.string)) : ∀ a, ao = some a → a.block < w.heap.size := fun a ha => by
  have h1 := (planP_of hp).grid.h1
  obtain ⟨b, off, he, hcell⟩ := hc 0 (.string (p.getD 0 ByteArray.empty)) (by rw [List.getElem?_map, List.getElem?_eq_getElem (by omega)]; simp [show 0 < p.length by omega])
  rw [ha] at he
  cases he
  exact World.block_lt_of_cell? w _ hcell
/-- the sets of a plain plan -/
theorem l5AllP_any (ao : Option Addr) (cap : Nat) (p : List ByteArray) (kind : Nat) (w : World) (hl : p.length ≤ 1048576) (hs : ∀ s ∈ p, s.size ≤ 1048576) (hp : planB p = true) (hc : CellsAt w ao (p.map Value.string)) :
    Calls Try.prog 103 #[.slice ao p.length cap, .int .i64 kind] w
      fun e w' => (∃ S, IsSets S (gridR p) (pL p kind) ∧ SetsRet w.heap.size S e w') ∧ Below w.heap.size w w' := l5All_any ao cap p kind w hl hs hp hc (block_in hp hc)

end Go.Proofs.Ytpgcpmfemcfoaaa

/-
  The model's lines of rooms. (Walks.)
-/
namespace Go.Proofs.Ytpgcpmfemcfoaaa
open Go.RowKit

theorem oR_yes {p : List ByteArray} (h : plainB p = true) : oR p = gridR p := by unfold oR; rw [if_pos h]
/-- where the model's line lies -/
def SoSt (w : World) (g5 g6 gp : Nat) (S T L : List Nat) (wr : World) : Prop := HeldB wr g5 3 (setsV S) ∧ HeldB wr g6 3 (setsV T) ∧ HeldB wr gp 3 (setsV L) ∧ Below w.heap.size w wr
theorem SoSt.put {w : World} {g5 g6 gp : Nat} {S T L M : List Nat} {wr : World} (h1 : g5 ≠ gp) (h2 : g6 ≠ gp) (h3 : w.heap.size ≤ gp) (h : SoSt w g5 g6 gp S T L wr) (x m : Nat) (hM : L.set x m = M) : SoSt w g5 g6 gp S T M (wr.setCell ⟨gp, x, none⟩ (.int .i64 (m : Nat))) := by
  subst hM
  exact ⟨h.1.other h1 _, h.2.1.other h2 _, (h.2.2.1.set x _).eq (setsV_put L x m), h.2.2.2.setCell (p := ⟨gp, x, none⟩) h3 _⟩

set_option maxRecDepth 100000 in
set_option maxHeartbeats 4000000 in
theorem l5SortedFirst_any (ao : Option Addr) (cap : Nat) (p : List ByteArray) (w : World) (hl : p.length ≤ 1048576) (hs : ∀ s ∈ p, s.size ≤ 1048576) (hpl : plainB p = true) (hc : CellsAt w ao (p.map Value.string)) :
    Calls Try.prog 72 #[.slice ao p.length cap, .bool false] w fun e w' => PlRet w.heap.size (firstL p) e w' ∧ Below w.heap.size w w' := by
  have HA := Lib.hid (fun w hc => l5AllP_any ao cap p 0 w hl hs (plainB_plan hpl) hc)
  have HB := Lib.hid (fun w hc => l5AllP_any ao cap p 1 w hl hs (plainB_plan hpl) hc)
  change Hid (∀ w _, Calls _ _ #[.slice ao p.length cap, .int .i64 0] w _) at HA
  change Hid (∀ w _, Calls _ _ #[.slice ao p.length cap, .int .i64 1] w _) at HB
  have hr9 := (planP_of (plainB_plan hpl)).few
  have HIR := Lib.hid (firstQ_irr p)
  rw [oR_yes hpl, oF_yes hpl] at HIR
  unfold firstL
  rw [oR_yes hpl, oF_yes hpl]
  clear hl hs hpl
  obtain ⟨q, hq⟩ : ∃ q, q = firstQ (pL p) := ⟨_, rfl⟩
  rw [← hq] at HIR
  rw [← hq]
  have HQ := Lib.hid (show ∀ b a, q b a = (pL p 0 b a || pL p 1 b a) from fun b a => by rw [hq]; rfl)
  clear hq
  generalize pL p 0 = f at *
  generalize pL p 1 = g at *
  generalize gridR p = r at *
  have HBIT := Lib.hid (fun (S : List Nat) (f : Nat → Nat → Bool) (h : IsSets S r f) (x y : Nat) (hx : x < r) => show (bits .and .i64 (((S.getD x 0 : Nat) : Int) / 2 ^ y) 1 == 1) = f x y by
    rw [← h.bit x y hx]; exact bit_i64 _ y (h.low x hx))
  have HCEL := Lib.hid (fun (S : List Nat) (f : Nat → Nat → Bool) (h : IsSets S r f) (x : Nat) (hx : x < r) => show (setsV S)[x]? = some (.int .i64 ((S.getD x 0 : Nat) : Int)) from setsV_at (by rw [h.len]; exact hx))
  have HLT := Lib.hid (fun b (hb : b < r) => placeN_lt hb (HIR.out b hb))
  have HLE := Lib.hid (fun k => lineN_len q r k)
  have HL0 := Lib.hid (show lineN q r 0 = List.replicate r 0 from rfl)
  have HLS := Lib.hid (fun k => show (lineN q r k).set (placeN q r k) k = lineN q r (k + 1) from rfl)
  have HPS := Lib.hid (fun k b => placeN_succ q k b)
  have HPE := Lib.hid (fun k b => placeN_le q k b)
  have HP0 := Lib.hid (fun b => show placeN q 0 b = 0 from rfl)
  clear HIR
  obtain ⟨im, hmi, hmz, hm1, hm2⟩ := info_parts Try.infoNum
  go_enter Try.func72, Try.ntmps72
  go_wp2_with (first
    | (go_at_call 103; refine (HA.out _ hc).mono ?_; rintro e w1 ⟨⟨S, his, g5, hg5, rfl, hB⟩, hb1⟩; rw [his.len]; have hc1 := hc.below hb1; clear HA)
    | (go_at_call 103; refine (HB.out _ hc1).mono ?_; rintro e w2 ⟨⟨T, hit, g6, hg6, rfl, hB2⟩, hb2⟩; rw [hit.len]; clear HB)
    | (at_make; refine wpList_make_full _ rfl _ _ 32 rfl w.heap.size 3 im (.int .i64 0) 1 Try.underlying32 hmi hmz hm1 .i64 .i64 _ _ r rfl rfl rfl rfl ?d2 ?d3 (by have := hb1.size; have := hb2.size; omega) ?_; rotate_left 2; intro w3 ho3 hg3; have hb3 : Below w2.heap.size w2 w3 := below_of_grownBy hg3 (Nat.le_refl _) (fun k hk => by cases hk); have hz := held_zeros ho3))
  case d2 => rw [hm2]; omega
  case d3 => unfold maxLen; omega
  have l5 := (hB.below hb2).lt
  have l6 := hB2.lt
  have hs1 := hb1.size
  have hs2 := hb2.size
  obtain ⟨gp, hgp⟩ : ∃ gp, gp = w2.heap.size := ⟨_, rfl⟩
  rw [← hgp] at hz ⊢
  have n5 : g5 ≠ gp := by omega
  have n6 : g6 ≠ gp := by omega
  have n0 : w.heap.size ≤ gp := by omega
  have st3 : SoSt w g5 g6 gp S T (lineN q r 0) w3 := ⟨(hB.below hb2).below hb3, hB2.below hb3, by rw [HL0.out]; exact hz, below_step (below_step hb1 hs1 hb2) (by omega) hb3⟩
  clear hz hB hB2 hb1 hb2 hb3 ho3 hg3 hc1 hc l5 l6 hs1 hs2 hgp hg5 hg6
  have HN := Lib.hid (show ∀ b, b < r → (b : Int) < (r : Int) from fun b hb => by omega)
  have HIS := Lib.hid his; have HIT := Lib.hid hit
  clear his hit
  go_loopw [9] (fun v wr => ∃ k : Nat, k ≤ r ∧ v = .int .i64 k ∧ SoSt w g5 g6 gp S T (lineN q r k) wr) (fun v _ => r - (intOf v).toNat)
  case atStart => exact ⟨0, Nat.zero_le _, rfl, st3⟩
  case round =>
    clear st3
    obtain ⟨k, hk, rfl, hst⟩ := hrel
    by_cases hkr : k < r
    · go_wp2
      go_loopw [10, 11] (fun v10 v11 wr => ∃ b : Nat, b ≤ r ∧ v11 = .int .i64 b ∧ v10 = .int .i64 (placeN q b k : Nat) ∧ SoSt w g5 g6 gp S T (lineN q r k) wr) (fun _ v _ => r - (intOf v).toNat)
      case atStart => exact ⟨0, Nat.zero_le _, rfl, by rw [HP0.out]; rfl, hst⟩
      case round =>
        clear hst
        obtain ⟨b, hb, rfl, rfl, hst⟩ := hrel
        by_cases hbr : b < r
        · have k1 := (hst.1.cell b).trans (HCEL.out S f HIS.out b hbr)
          have k2 := (hst.2.1.cell b).trans (HCEL.out T g HIT.out b hbr)
          have k3 := (hst.2.1.cell k).trans (HCEL.out T g HIT.out k hkr)
          have t1 := HBIT.out S f HIS.out b k hbr
          have t2 := HBIT.out T g HIT.out b k hbr
          have t3 := HBIT.out T g HIT.out k b hkr
          have hbi : (b : Int) < (r : Int) := by omega
          have hki : (k : Int) < (r : Int) := by omega
          have hpe := HPE.out b k
          have HP2 := Lib.hid (HPS.out b k)
          rw [HQ.out] at HP2
          generalize placeN q b k = y at *
          generalize S.getD b 0 = z1 at *
          generalize T.getD b 0 = z2 at *
          generalize T.getD k 0 = z3 at *
          cases h1 : f b k
          · rw [h1] at t1 HP2
            cases h2 : g b k
            · rw [h2] at t2 HP2
              have hy : placeN q (b + 1) k = y := by rw [HP2.out]; rfl
              clear HP2
              go_wp2
              go_roundw
              case rel => exact ⟨b + 1, by omega, by go_num, by rw [hy], hst⟩
              case measure => simp [intOf]; omega
            · rw [h2] at t2 HP2
              have hy : placeN q (b + 1) k = y + 1 := by rw [HP2.out]; rfl
              clear HP2
              go_wp2
              go_roundw
              case rel => exact ⟨b + 1, by omega, by go_num, by rw [hy]; go_num, hst⟩
              case measure => simp [intOf]; omega
          · rw [h1] at t1 HP2
            have hy : placeN q (b + 1) k = y + 1 := by rw [HP2.out]; rfl
            clear HP2
            go_wp2
            go_roundw
            case rel => exact ⟨b + 1, by omega, by go_num, by rw [hy]; go_num, hst⟩
            case measure => simp [intOf]; omega
        · obtain rfl : b = r := by omega
          have hlt := HLT.out k hkr
          have hll := HLE.out k
          have hst2 := hst.put n5 n6 n0 (placeN q b k) k (HLS.out k)
          have f1 := hst.2.2.1.frozen (placeN q b k)
          have k2 : wr.cell? ⟨gp, placeN q b k, none⟩ = some (.int .i64 ((lineN q b k).getD (placeN q b k) 0 : Nat)) := (hst.2.2.1.cell _).trans (setsV_at (by rw [hll]; exact hlt))
          have hlti : ((placeN q b k : Nat) : Int) < (b : Int) := by omega
          generalize (lineN q b k).getD (placeN q b k) 0 = z at *
          generalize placeN q b k = y at *
          clear hst
          go_wp2
          go_roundw
          case rel => exact ⟨k + 1, by omega, by go_num, hst2⟩
          case measure => simp [intOf]; omega
    · obtain rfl : k = r := by omega
      have hlen := HLE.out k
      go_wp2
      go_ret
      exact ⟨⟨gp, n0, by rw [hlen]; rfl, hst.2.2.1⟩, hst.2.2.2⟩

set_option maxRecDepth 100000 in
set_option maxHeartbeats 4000000 in
theorem l5SortedSecond_any (ao : Option Addr) (cap : Nat) (p : List ByteArray) (w : World) (hl : p.length ≤ 1048576) (hs : ∀ s ∈ p, s.size ≤ 1048576) (hpl : plainB p = true) (hc : CellsAt w ao (p.map Value.string)) :
    Calls Try.prog 72 #[.slice ao p.length cap, .bool true] w fun e w' => PlRet w.heap.size (secondL p) e w' ∧ Below w.heap.size w w' := by
  have HA := Lib.hid (fun w hc => l5AllP_any ao cap p 0 w hl hs (plainB_plan hpl) hc)
  have HB := Lib.hid (fun w hc => l5AllP_any ao cap p 1 w hl hs (plainB_plan hpl) hc)
  change Hid (∀ w _, Calls _ _ #[.slice ao p.length cap, .int .i64 0] w _) at HA
  change Hid (∀ w _, Calls _ _ #[.slice ao p.length cap, .int .i64 1] w _) at HB
  have hr9 := (planP_of (plainB_plan hpl)).few
  have HIR := Lib.hid (secondQ_irr p)
  rw [oR_yes hpl, oF_yes hpl] at HIR
  unfold secondL
  rw [oR_yes hpl, oF_yes hpl]
  clear hl hs hpl
  obtain ⟨q, hq⟩ : ∃ q, q = secondQ (pL p) := ⟨_, rfl⟩
  rw [← hq] at HIR
  rw [← hq]
  have HQ := Lib.hid (show ∀ b a, q b a = (pL p 0 b a || pL p 1 a b) from fun b a => by rw [hq]; rfl)
  clear hq
  generalize pL p 0 = f at *
  generalize pL p 1 = g at *
  generalize gridR p = r at *
  have HBIT := Lib.hid (fun (S : List Nat) (f : Nat → Nat → Bool) (h : IsSets S r f) (x y : Nat) (hx : x < r) => show (bits .and .i64 (((S.getD x 0 : Nat) : Int) / 2 ^ y) 1 == 1) = f x y by
    rw [← h.bit x y hx]; exact bit_i64 _ y (h.low x hx))
  have HCEL := Lib.hid (fun (S : List Nat) (f : Nat → Nat → Bool) (h : IsSets S r f) (x : Nat) (hx : x < r) => show (setsV S)[x]? = some (.int .i64 ((S.getD x 0 : Nat) : Int)) from setsV_at (by rw [h.len]; exact hx))
  have HLT := Lib.hid (fun b (hb : b < r) => placeN_lt hb (HIR.out b hb))
  have HLE := Lib.hid (fun k => lineN_len q r k)
  have HL0 := Lib.hid (show lineN q r 0 = List.replicate r 0 from rfl)
  have HLS := Lib.hid (fun k => show (lineN q r k).set (placeN q r k) k = lineN q r (k + 1) from rfl)
  have HPS := Lib.hid (fun k b => placeN_succ q k b)
  have HPE := Lib.hid (fun k b => placeN_le q k b)
  have HP0 := Lib.hid (fun b => show placeN q 0 b = 0 from rfl)
  clear HIR
  obtain ⟨im, hmi, hmz, hm1, hm2⟩ := info_parts Try.infoNum
  go_enter Try.func72, Try.ntmps72
  go_wp2_with (first
    | (go_at_call 103; refine (HA.out _ hc).mono ?_; rintro e w1 ⟨⟨S, his, g5, hg5, rfl, hB⟩, hb1⟩; rw [his.len]; have hc1 := hc.below hb1; clear HA)
    | (go_at_call 103; refine (HB.out _ hc1).mono ?_; rintro e w2 ⟨⟨T, hit, g6, hg6, rfl, hB2⟩, hb2⟩; rw [hit.len]; clear HB)
    | (at_make; refine wpList_make_full _ rfl _ _ 32 rfl w.heap.size 3 im (.int .i64 0) 1 Try.underlying32 hmi hmz hm1 .i64 .i64 _ _ r rfl rfl rfl rfl ?d2 ?d3 (by have := hb1.size; have := hb2.size; omega) ?_; rotate_left 2; intro w3 ho3 hg3; have hb3 : Below w2.heap.size w2 w3 := below_of_grownBy hg3 (Nat.le_refl _) (fun k hk => by cases hk); have hz := held_zeros ho3))
  case d2 => rw [hm2]; omega
  case d3 => unfold maxLen; omega
  have l5 := (hB.below hb2).lt
  have l6 := hB2.lt
  have hs1 := hb1.size
  have hs2 := hb2.size
  obtain ⟨gp, hgp⟩ : ∃ gp, gp = w2.heap.size := ⟨_, rfl⟩
  rw [← hgp] at hz ⊢
  have n5 : g5 ≠ gp := by omega
  have n6 : g6 ≠ gp := by omega
  have n0 : w.heap.size ≤ gp := by omega
  have st3 : SoSt w g5 g6 gp S T (lineN q r 0) w3 := ⟨(hB.below hb2).below hb3, hB2.below hb3, by rw [HL0.out]; exact hz, below_step (below_step hb1 hs1 hb2) (by omega) hb3⟩
  clear hz hB hB2 hb1 hb2 hb3 ho3 hg3 hc1 hc l5 l6 hs1 hs2 hgp hg5 hg6
  have HN := Lib.hid (show ∀ b, b < r → (b : Int) < (r : Int) from fun b hb => by omega)
  have HIS := Lib.hid his; have HIT := Lib.hid hit
  clear his hit
  go_loopw [9] (fun v wr => ∃ k : Nat, k ≤ r ∧ v = .int .i64 k ∧ SoSt w g5 g6 gp S T (lineN q r k) wr) (fun v _ => r - (intOf v).toNat)
  case atStart => exact ⟨0, Nat.zero_le _, rfl, st3⟩
  case round =>
    clear st3
    obtain ⟨k, hk, rfl, hst⟩ := hrel
    by_cases hkr : k < r
    · go_wp2
      go_loopw [10, 11] (fun v10 v11 wr => ∃ b : Nat, b ≤ r ∧ v11 = .int .i64 b ∧ v10 = .int .i64 (placeN q b k : Nat) ∧ SoSt w g5 g6 gp S T (lineN q r k) wr) (fun _ v _ => r - (intOf v).toNat)
      case atStart => exact ⟨0, Nat.zero_le _, rfl, by rw [HP0.out]; rfl, hst⟩
      case round =>
        clear hst
        obtain ⟨b, hb, rfl, rfl, hst⟩ := hrel
        by_cases hbr : b < r
        · have k1 := (hst.1.cell b).trans (HCEL.out S f HIS.out b hbr)
          have k2 := (hst.2.1.cell b).trans (HCEL.out T g HIT.out b hbr)
          have k3 := (hst.2.1.cell k).trans (HCEL.out T g HIT.out k hkr)
          have t1 := HBIT.out S f HIS.out b k hbr
          have t2 := HBIT.out T g HIT.out b k hbr
          have t3 := HBIT.out T g HIT.out k b hkr
          have hbi : (b : Int) < (r : Int) := by omega
          have hki : (k : Int) < (r : Int) := by omega
          have hpe := HPE.out b k
          have HP2 := Lib.hid (HPS.out b k)
          rw [HQ.out] at HP2
          generalize placeN q b k = y at *
          generalize S.getD b 0 = z1 at *
          generalize T.getD b 0 = z2 at *
          generalize T.getD k 0 = z3 at *
          cases h1 : f b k
          · rw [h1] at t1 HP2
            cases h2 : g k b
            · rw [h2] at t3 HP2
              have hy : placeN q (b + 1) k = y := by rw [HP2.out]; rfl
              clear HP2
              go_wp2
              go_roundw
              case rel => exact ⟨b + 1, by omega, by go_num, by rw [hy], hst⟩
              case measure => simp [intOf]; omega
            · rw [h2] at t3 HP2
              have hy : placeN q (b + 1) k = y + 1 := by rw [HP2.out]; rfl
              clear HP2
              go_wp2
              go_roundw
              case rel => exact ⟨b + 1, by omega, by go_num, by rw [hy]; go_num, hst⟩
              case measure => simp [intOf]; omega
          · rw [h1] at t1 HP2
            have hy : placeN q (b + 1) k = y + 1 := by rw [HP2.out]; rfl
            clear HP2
            go_wp2
            go_roundw
            case rel => exact ⟨b + 1, by omega, by go_num, by rw [hy]; go_num, hst⟩
            case measure => simp [intOf]; omega
        · obtain rfl : b = r := by omega
          have hlt := HLT.out k hkr
          have hll := HLE.out k
          have hst2 := hst.put n5 n6 n0 (placeN q b k) k (HLS.out k)
          have f1 := hst.2.2.1.frozen (placeN q b k)
          have k2 : wr.cell? ⟨gp, placeN q b k, none⟩ = some (.int .i64 ((lineN q b k).getD (placeN q b k) 0 : Nat)) := (hst.2.2.1.cell _).trans (setsV_at (by rw [hll]; exact hlt))
          have hlti : ((placeN q b k : Nat) : Int) < (b : Int) := by omega
          generalize (lineN q b k).getD (placeN q b k) 0 = z at *
          generalize placeN q b k = y at *
          clear hst
          go_wp2
          go_roundw
          case rel => exact ⟨k + 1, by omega, by go_num, hst2⟩
          case measure => simp [intOf]; omega
    · obtain rfl : k = r := by omega
      have hlen := HLE.out k
      go_wp2
      go_ret
      exact ⟨⟨gp, n0, by rw [hlen]; rfl, hst.2.2.1⟩, hst.2.2.2⟩
end Go.Proofs.Ytpgcpmfemcfoaaa

/-
  The model's first and second orders. (Walks.)
-/
namespace Go.Proofs.Ytpgcpmfemcfoaaa
open Go.RowKit

end Go.Proofs.Ytpgcpmfemcfoaaa

/-
  The permutation of an order: the model's. (Plain mathematics, and walks.)
-/
namespace Go.Proofs.Ytpgcpmfemcfoaaa
open Go.RowKit

/-- both orders of a plain plan are lines -/
theorem first_lin {p : List ByteArray} (h : plainB p = true) : Lin (firstQ (pL p)) (gridR p) := by
  have or4 : ∀ a b : Nat, firstQ (pL p) a b = true ↔ pL p 0 a b = true ∨ pL p 1 a b = true := fun a b => by unfold firstQ; rw [Bool.or_eq_true]
  refine ⟨fun a ha => ?_, fun a b ha hb hne => ?_, fun a b c ha hb hc h1 h2 => ?_⟩
  · have := firstQ_irr p a (by rw [oR_yes h]; exact ha); rwa [oF_yes h] at this
  · rw [or4, or4]
    rcases pL_some (plainB_plan h) ha hb hne with e | e | e | e
    · exact .inl (.inl e)
    · exact .inr (.inl e)
    · exact .inl (.inr e)
    · exact .inr (.inr e)
  · rw [or4] at h1 h2
    rw [or4]
    by_cases hac : a = c
    · subst hac
      exfalso
      rcases h1 with h1 | h1 <;> rcases h2 with h2 | h2
      · rw [(pL_one h ha hb h1).1] at h2; cases h2
      · rw [(pL_one h ha hb h1).2.2] at h2; cases h2
      · rw [(pL_over h ha hb h1).2.2] at h2; cases h2
      · rw [(pL_over h ha hb h1).1] at h2; cases h2
    · rcases pL_some (plainB_plan h) ha hc hac with e | e | e | e
      · exact .inl e
      · exfalso
        -- c is left of a
        rcases h1 with h1 | h1
        · have hcb := pL_trans (by omega) e h1
          rcases h2 with h2 | h2
          · rw [(pL_one h hc hb hcb).1] at h2; cases h2
          · rw [(pL_one h hc hb hcb).2.2] at h2; cases h2
        · rcases h2 with h2 | h2
          · have hba := pL_trans (by omega) h2 e
            rw [(pL_one h hb ha hba).2.2] at h1; cases h1
          · have hca := pL_trans (by omega) h1 h2
            rw [(pL_over h ha hc hca).2.2] at e; cases e
      · exact .inr e
      · exfalso
        rcases h1 with h1 | h1
        · rcases h2 with h2 | h2
          · have hca := pL_trans (by omega) h1 h2
            rw [(pL_one h ha hc hca).2.2] at e; cases e
          · have hba := pL_trans (by omega) h2 e
            rw [(pL_over h hb ha hba).2.2] at h1; cases h1
        · have hcb := pL_trans (by omega) e h1
          rcases h2 with h2 | h2
          · rw [(pL_over h hc hb hcb).2.2] at h2; cases h2
          · rw [(pL_over h hc hb hcb).1] at h2; cases h2
theorem second_lin {p : List ByteArray} (h : plainB p = true) : Lin (secondQ (pL p)) (gridR p) := by
  have or4 : ∀ a b : Nat, secondQ (pL p) a b = true ↔ pL p 0 a b = true ∨ pL p 1 b a = true := fun a b => by unfold secondQ; rw [Bool.or_eq_true]
  refine ⟨fun a ha => ?_, fun a b ha hb hne => ?_, fun a b c ha hb hc h1 h2 => ?_⟩
  · have := secondQ_irr p a (by rw [oR_yes h]; exact ha); rwa [oF_yes h] at this
  · rw [or4, or4]
    rcases pL_some (plainB_plan h) ha hb hne with e | e | e | e
    · exact .inl (.inl e)
    · exact .inr (.inl e)
    · exact .inr (.inr e)
    · exact .inl (.inr e)
  · rw [or4] at h1 h2
    rw [or4]
    by_cases hac : a = c
    · subst hac
      exfalso
      rcases h1 with h1 | h1 <;> rcases h2 with h2 | h2
      · rw [(pL_one h ha hb h1).1] at h2; cases h2
      · rw [(pL_one h ha hb h1).2.1] at h2; cases h2
      · rw [(pL_over h hb ha h1).2.1] at h2; cases h2
      · rw [(pL_over h hb ha h1).1] at h2; cases h2
    · rcases pL_some (plainB_plan h) ha hc hac with e | e | e | e
      · exact .inl e
      · exfalso
        rcases h1 with h1 | h1
        · have hcb := pL_trans (by omega) e h1
          rcases h2 with h2 | h2
          · rw [(pL_one h hc hb hcb).1] at h2; cases h2
          · rw [(pL_one h hc hb hcb).2.1] at h2; cases h2
        · rcases h2 with h2 | h2
          · have hba := pL_trans (by omega) h2 e
            rw [(pL_one h hb ha hba).2.1] at h1; cases h1
          · have hca := pL_trans (by omega) h2 h1
            rw [(pL_over h hc ha hca).2.1] at e; cases e
      · exfalso
        -- a is above c
        rcases h1 with h1 | h1
        · rcases h2 with h2 | h2
          · have hca := pL_trans (by omega) h1 h2
            rw [(pL_one h ha hc hca).2.1] at e; cases e
          · have hab := pL_trans (by omega) e h2
            rw [(pL_one h ha hb h1).2.1] at hab; cases hab
        · have hbc := pL_trans (by omega) h1 e
          rcases h2 with h2 | h2
          · rw [(pL_one h hb hc h2).2.1] at hbc; cases hbc
          · rw [(pL_over h hb hc hbc).1] at h2; cases h2
      · exact .inr e

/-- the model's places: each place told to the room there -/
def placK (q : Nat → Nat → Bool) (r : Nat) : Nat → List Nat
  | 0 => List.replicate r 0
  | k + 1 => (placK q r k).set ((lineN q r r).getD k 0) k
theorem placK_len (q : Nat → Nat → Bool) (r : Nat) : ∀ k, (placK q r k).length = r
  | 0 => List.length_replicate
  | k + 1 => by rw [placK, List.length_set]; exact placK_len q r k
theorem placK_at {q : Nat → Nat → Bool} {r : Nat} (L : Lin q r) : ∀ k, k ≤ r → ∀ x, x < r → placeN q r x < k → (placK q r k).getD x 0 = placeN q r x
  | 0, _, x, _, h => by omega
  | k + 1, hk, x, hx, h => by
    obtain ⟨b1, b2⟩ := L.back (k := k) (by omega)
    rw [placK, getD_set _ _ _ _ (by rw [placK_len]; exact b2)]
    by_cases he : x = (lineN q r r).getD k 0
    · rw [if_pos he]; rw [← he] at b1; exact b1.symm
    · rw [if_neg he]
      refine placK_at L k (by omega) x hx ?_
      rcases Nat.lt_or_ge (placeN q r x) k with h1 | h1
      · exact h1
      · exfalso
        exact he (L.inj hx b2 (by omega))

theorem permQ_at {q1 q2 : Nat → Nat → Bool} {r i : Nat} (hi : i < r) : (permQ q1 q2 r).getD i 0 = placeN q1 r ((lineN q2 r r).getD i 0) := by simp [permQ, hi]
theorem ints_push (L : List Int) (i : Nat) (h : i < L.length) : L.take (i + 1) = L.take i ++ [L.getD i 0] := by
  rw [List.take_succ_eq_append_getElem h]; simp [h]

set_option maxRecDepth 100000 in
set_option maxHeartbeats 4000000 in
theorem l5Perm_any (ao : Option Addr) (cap : Nat) (p : List ByteArray) (w : World) (hl : p.length ≤ 1048576) (hs : ∀ s ∈ p, s.size ≤ 1048576) (hpl : plainB p = true) (hc : CellsAt w ao (p.map Value.string)) :
    Calls Try.prog 37 #[.slice ao p.length cap] w
      fun e w' => ∃ ro rc, e = .returned (.slice ro (intsL (permL p)).length rc) ∧ w'.ownsRow w.heap.size 3 1 (.slice ro (intsL (permL p)).length rc) (intsL (permL p)).length ((intsL (permL p)).map (Value.int .i64)) ∧ Below w.heap.size w w' := by
  have HA := Lib.hid (fun w hc => l5SortedFirst_any ao cap p w hl hs hpl hc)
  have HB := Lib.hid (fun w hc => l5SortedSecond_any ao cap p w hl hs hpl hc)
  have hr9 := (planP_of (plainB_plan hpl)).few
  have L1 := first_lin hpl
  have L2 := second_lin hpl
  unfold firstL at HA
  unfold secondL at HB
  unfold permL
  rw [oR_yes hpl, oF_yes hpl] at HA HB
  rw [oR_yes hpl, oF_yes hpl]
  clear hl hs hpl
  generalize firstQ (pL p) = q at *
  generalize secondQ (pL p) = q2 at *
  generalize gridR p = r at *
  have HBK := Lib.hid (fun k (hk : k < r) => (L1.back hk).2)
  have HBK2 := Lib.hid (fun k (hk : k < r) => (L2.back hk).2)
  have HPA := Lib.hid (fun x (hx : x < r) => placK_at L1 r (Nat.le_refl _) x hx (L1.lt hx))
  have HPL := Lib.hid (fun k => placK_len q r k)
  have HPS := Lib.hid (fun k => show (placK q r k).set ((lineN q r r).getD k 0) k = placK q r (k + 1) from rfl)
  have HP0 := Lib.hid (show placK q r 0 = List.replicate r 0 from rfl)
  have HL1 := Lib.hid (lineN_len q r r)
  have HL2 := Lib.hid (lineN_len q2 r r)
  have HTL := Lib.hid (show (intsL (permQ q q2 r)).length = r by rw [intsL_len, permQ_len])
  have HTA := Lib.hid (fun i (hi : i < r) => show (intsL (permQ q q2 r)).getD i 0 = ((placeN q r ((lineN q2 r r).getD i 0) : Nat) : Int) by
    rw [← permQ_at hi]; simp [intsL, permQ_len, hi])
  clear L1 L2
  generalize intsL (permQ q q2 r) = T at *
  generalize lineN q r r = A at *
  generalize lineN q2 r r = B at *
  obtain ⟨im, hmi, hmz, hm1, hm2⟩ := info_parts Try.infoNum
  go_enter Try.func37, Try.ntmps37
  go_wp2_with (first
    | (go_at_call 72; refine (HA.out _ hc).mono ?_; rintro e w1 ⟨⟨g3, hg3, rfl, hB3⟩, hb1⟩; rw [HL1.out]; have hc1 := hc.below hb1; clear HA)
    | (go_at_call 72; refine (HB.out _ hc1).mono ?_; rintro e w2 ⟨⟨g4, hg4, rfl, hB4⟩, hb2⟩; rw [HL2.out]; clear HB)
    | (at_make; refine wpList_make_full _ rfl _ _ 32 rfl w.heap.size 3 im (.int .i64 0) 1 Try.underlying32 hmi hmz hm1 .i64 .i64 _ _ r rfl rfl rfl rfl ?d2 ?d3 (by have := hb1.size; have := hb2.size; omega) ?_; rotate_left 2; intro w3 ho3 hg5; have hb3 : Below w2.heap.size w2 w3 := below_of_grownBy hg5 (Nat.le_refl _) (fun k hk => by cases hk); have hz := held_zeros ho3))
  case d2 => rw [hm2]; omega
  case d3 => unfold maxLen; omega
  have l3 := (hB3.below hb2).lt
  have l4 := hB4.lt
  have hs1 := hb1.size
  have hs2 := hb2.size
  obtain ⟨gp, hgp⟩ : ∃ gp, gp = w2.heap.size := ⟨_, rfl⟩
  rw [← hgp] at hz ⊢
  have n3 : g3 ≠ gp := by omega
  have n4 : g4 ≠ gp := by omega
  have n0 : w.heap.size ≤ gp := by omega
  have st3 : SoSt w g3 g4 gp A B (placK q r 0) w3 := ⟨(hB3.below hb2).below hb3, hB4.below hb3, by rw [HP0.out]; exact hz, below_step (below_step hb1 hs1 hb2) (by omega) hb3⟩
  clear hz hB3 hB4 hb1 hb2 hb3 ho3 hg5 hc1 hc l3 l4 hs1 hs2 hgp hg3 hg4
  go_loopw [6] (fun v wr => ∃ k : Nat, k ≤ r ∧ v = .int .i64 k ∧ SoSt w g3 g4 gp A B (placK q r k) wr) (fun v _ => r - (intOf v).toNat)
  case atStart => exact ⟨0, Nat.zero_le _, rfl, st3⟩
  case round =>
    clear st3
    obtain ⟨k, hk, rfl, hst⟩ := hrel
    by_cases hkr : k < r
    · have hlt := HBK.out k hkr
      have hll := HPL.out k
      have k1 : wr.cell? ⟨g3, k, none⟩ = some (.int .i64 (A.getD k 0 : Nat)) := (hst.1.cell k).trans (setsV_at (by rw [HL1.out]; exact hkr))
      have hst2 := hst.put n3 n4 n0 (A.getD k 0) k (HPS.out k)
      have f1 := hst.2.2.1.frozen (A.getD k 0)
      have k2 : wr.cell? ⟨gp, A.getD k 0, none⟩ = some (.int .i64 ((placK q r k).getD (A.getD k 0) 0 : Nat)) := (hst.2.2.1.cell _).trans (setsV_at (by rw [hll]; exact hlt))
      have hkri : (k : Int) < (r : Int) := by omega
      have hlti : ((A.getD k 0 : Nat) : Int) < (r : Int) := by omega
      generalize (placK q r k).getD (A.getD k 0) 0 = z at *
      generalize A.getD k 0 = y at *
      clear hst
      go_wp2
      go_roundw
      case rel => exact ⟨k + 1, by omega, by go_num, hst2⟩
      case measure => simp [intOf]; omega
    · obtain rfl : k = r := by omega
      have HPA2 := HPA
      have hlp := HPL.out k
      generalize placK q k k = PL at *
      have hb0 := hst.2.2.2.trans ((below_alloc wr (.cells #[] 3)).mono hst.2.2.2.size)
      have hr0 : (wr.alloc (.cells #[] 3)).ownsRow wr.heap.size 3 1 (.slice (some ⟨wr.heap.size, 0, none⟩) 0 0) (T.take 0).length ((T.take 0).map (Value.int .i64)) := World.ownsRow_made wr #[] 0 (Nat.le_refl _) (Nat.zero_le _) rfl
      have hB4 := hst.2.1.alloc (.cells #[] 3)
      have hBp := hst.2.2.1.alloc (.cells #[] 3)
      have l4 := hst.2.1.lt
      have lp := hst.2.2.1.lt
      have lw := hst.2.2.2.size
      obtain ⟨BB, hBB⟩ : ∃ BB, BB = wr.heap.size := ⟨_, rfl⟩
      have hBW : BB ≤ (wr.alloc (.cells #[] 3)).heap.size := by simp; omega
      rw [← hBB] at hr0 l4 lp lw
      go_wp2
      rw [← hBB]
      clear hst hBB
      go_loopw [7, 8] (fun vo vi wm => ∃ (i : Nat) (ro : Option Addr) (rc : Nat), i ≤ k ∧ vi = .int .i64 i ∧ vo = .slice ro (T.take i).length rc ∧ wm.ownsRow BB 3 1 (.slice ro (T.take i).length rc) (T.take i).length ((T.take i).map (Value.int .i64)) ∧ HeldB wm g4 3 (setsV B) ∧ HeldB wm gp 3 (setsV PL) ∧ BB ≤ wm.heap.size ∧ Below w.heap.size w wm) (fun _ vi _ => k - (intOf vi).toNat)
      case atStart => exact ⟨0, _, _, Nat.zero_le _, rfl, rfl, hr0, hB4, hBp, hBW, hb0⟩
      case round =>
        clear hr0 hb0 hB4 hBp hBW
        obtain ⟨i, ro, rc, hi, rfl, rfl, hrow, hB4, hBp, hBw, hb⟩ := hrel
        by_cases hik : i < k
        · have hlt := HBK2.out i hik
          have hpa := HPA2.out _ hlt
          have hta := HTA.out i hik
          have k1 := (hB4.cell i).trans (setsV_at (S := B) (by rw [HL2.out]; exact hik))
          have k2 := (hBp.cell (B.getD i 0)).trans (setsV_at (S := PL) (by rw [hlp]; exact hlt))
          rw [hpa] at k2
          have hki : (i : Int) < (k : Int) := by omega
          have hlti : ((B.getD i 0 : Nat) : Int) < (k : Int) := by omega
          have hTl : (T.take i).length = i := by rw [List.length_take, HTL.out]; omega
          have HSU := Lib.hid (ints_push T i (by rw [HTL.out]; exact hik))
          rw [hta] at HSU
          clear hta hpa
          generalize placeN q k (B.getD i 0) = z at *
          generalize B.getD i 0 = y at *
          have hb1' : (T.take i).length + 1 ≤ maxLen := by unfold maxLen; omega
          have hb2' : ((T.take i).length + 1) * 8 ≤ 140737488355328 := by omega
          have HTLI := Lib.hid hTl
          clear hTl
          generalize T.take i = L at *
          have hlo := owns_lt hrow
          go_wp2_with (at_builtin; refine wpList_push _ rfl (.tmp 36) (.tmp 44) 32 rfl BB 3 im (.int .i64 0) 8 Try.underlying32 hmi hmz hm1 hm2 rfl ro L.length rc _ rfl (hrow.alloc _) _ _ _ rfl (cell_new _ _ _) rfl hb1' hb2' (by simp; omega) ?_; intro ro2 rc2 w4 hrow2 hg2 hnew2)
          have hlen : (T.take (i + 1)).length = L.length + 1 := by rw [HSU.out, List.length_append]; rfl
          have HLN := Lib.hid hlen
          clear hlen
          have hg4k := kept_own (hB4.alloc (.cells #[.int .i64 (z : Nat)] 3)) hg2 (fun a ha => by have := (hlo a ha).1; omega)
          have hgpk := kept_own (hBp.alloc (.cells #[.int .i64 (z : Nat)] 3)) hg2 (fun a ha => by have := (hlo a ha).1; omega)
          have hsz := hg2.size
          simp only [World.size_alloc] at hsz
          go_roundw
          case rel => exact ⟨i + 1, ro2, rc2, by omega, by go_num, by rw [HLN.out], by rw [HLN.out, HSU.out, List.map_append]; exact hrow2, hg4k, hgpk, by omega, below_push hb hb.size hg2 (fun a ha => by have := (hlo a ha).1; omega)⟩
          case measure => simp [intOf]; omega
        · obtain rfl : i = k := by omega
          rw [List.take_of_length_le (by rw [HTL.out]; exact Nat.le_refl _)] at hrow
          rw [List.take_of_length_le (by rw [HTL.out]; exact Nat.le_refl _)]
          go_wp2
          go_ret
          exact ⟨ro, rc, rfl, ownsRow_base hrow (by omega), hb⟩
end Go.Proofs.Ytpgcpmfemcfoaaa
