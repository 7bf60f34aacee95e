/-
  Plans of one row have one permutation for each number of rooms. (Mathematics.)
-/
import Derived.Test.YtpgcpmfemcfoaaaCtuO
import Derived.Test.YtpgcpmfemcfoaaaCtnMO

namespace Go.Proofs.Ytpgcpmfemcfoaaa
open Go.RowKit

theorem oneRow_above {p : List ByteArray} (h : plainB p = true) (h1 : p.length = 1) {a b : Nat} (ha : a < gridR p) (hb : b < gridR p) : pL p 1 a b = false := by
  have hr := (planP_of (plainB_plan h)).rectG
  obtain ⟨i, j, hi, hj, rfl⟩ := room_at ha
  obtain ⟨x, y, hx, hy, rfl⟩ := room_at hb
  rw [Bool.eq_false_iff]
  intro hl
  rw [pL_above] at hl
  have := above_rows hr (noX_of h) hi hj hx hy hl
  omega
theorem placeN_cong {q1 q2 : Nat → Nat → Bool} {r b : Nat} (h : ∀ a, a < r → q1 a b = q2 a b) : placeN q1 r b = placeN q2 r b := by
  unfold placeN
  refine List.countP_congr fun a ha => ?_
  rw [h a (List.mem_range.1 ha)]
theorem oneRow_perm {p : List ByteArray} (h : plainB p = true) (h1 : p.length = 1) : permL p = List.range (gridR p) := by
  have e : permL p = permQ (firstQ (pL p)) (secondQ (pL p)) (gridR p) := by
    unfold permL oF oR
    rw [if_pos h, if_pos h]
    rfl
  rw [e]
  have L := second_lin h
  refine List.ext_getElem (by rw [permQ_len, List.length_range]) fun i hi _ => ?_
  rw [permQ_len] at hi
  have := L.back hi
  have q := permQ_at (q1 := firstQ (pL p)) (q2 := secondQ (pL p)) hi
  rw [List.getD_eq_getElem?_getD, List.getElem?_eq_getElem (by rw [permQ_len]; exact hi), Option.getD_some] at q
  rw [q, List.getElem_range, ← this.1]
  rw [this.1]
  refine (placeN_cong fun a ha => ?_).trans this.1
  have h2 := this.2
  generalize (lineN (secondQ (pL p)) (gridR p) (gridR p)).getD i 0 = b at *
  show (pL p 0 a b || pL p 1 a b) = (pL p 0 a b || pL p 1 b a)
  rw [oneRow_above h h1 ha h2, oneRow_above h h1 h2 ha]
theorem firsts_one {L : List (List Int)} {x : List Int} (h : ∀ y ∈ L, y = x) : (firsts L).length = if L = [] then 0 else 1 := by
  induction L using snoc_ind with
  | h0 => rfl
  | h1 l y ih =>
    have hy := h y (by simp)
    subst hy
    have ih := ih (fun z hz => h z (by simp [hz]))
    rw [firsts_len_snoc, ih, if_neg (show ¬ l ++ [y] = [] by simp)]
    cases l with
    | nil => rfl
    | cons z l =>
      have hz := h z (by simp)
      subst hz
      rw [if_pos (by simp), if_neg (by simp)]
set_option maxRecDepth 100000 in
theorem oneRow_some : ∀ b : Fin 7, ∀ r : Fin 7, 1 ≤ b.val → 1 ≤ r.val → r.val ≤ b.val → 1 ≤ ((allZ 1 b.val).map (·.1)).count r.val := by decide +kernel
theorem oneRow_math {m rooms : Nat} (m1 : 1 ≤ m) (m6 : m ≤ 6) (r1 : 1 ≤ rooms) (hr : rooms ≤ m) : ordN 1 m rooms = 1 := by
  have hx : ∀ x ∈ ordM 1 m rooms, x = intsL (List.range rooms) := fun x hx => by
    rw [← prmT_all] at hx
    unfold prmT at hx
    obtain ⟨p, hp, rfl⟩ := List.mem_map.1 hx
    obtain ⟨hp1, hp2⟩ := List.mem_filter.1 hp
    unfold ordQ at hp2
    rw [Bool.and_eq_true, decide_eq_true_eq] at hp2
    unfold lstT at hp1
    obtain ⟨y, hy, rfl⟩ := List.mem_map.1 hp1
    have L := leaf (Nat.le_refl 1) (by omega) m1 m6 (by omega) hy
    rw [oneRow_perm hp2.2 L.len, hp2.1]
  have hne : ordM 1 m rooms ≠ [] := by
    have hc := oneRow_some ⟨m, by omega⟩ ⟨rooms, by omega⟩ m1 r1 hr
    have hmem := List.count_pos_iff.1 (show 0 < _ from hc)
    obtain ⟨y, hy, e⟩ := List.mem_map.1 hmem
    have L := leaf (Nat.le_refl 1) (by omega) m1 m6 (by omega) hy
    have hq : ordQ rooms (txtZ 1 m y.2) = true := by
      unfold ordQ
      rw [Bool.and_eq_true, decide_eq_true_eq]
      exact ⟨L.rooms.trans e, one_plain L.plan (.inl L.len)⟩
    intro h0
    have : y ∈ asked (ordQ rooms) 1 m (allZ 1 m) := List.mem_filter.2 ⟨hy, hq⟩
    have h2 := List.mem_map_of_mem (f := prmZ 1 m) this
    unfold ordM at h0
    rw [h0] at h2
    cases h2
  unfold ordN
  rw [firsts_one hx, if_neg hne]
theorem oneRow_ord {n m k : Int} (h : ordOk n m k = true) (hn : n = 1) (hk : k ≤ m) : ordR n m k = 1 := by
  have h0 := h
  unfold ordOk at h
  rw [Bool.and_eq_true] at h
  obtain ⟨h1, h2⟩ := h
  obtain ⟨a, b, rfl, rfl, a1, a6, b1, b6, h9⟩ := frOk_dims h1
  unfold isN at h2
  rw [Bool.and_eq_true, decide_eq_true_eq, decide_eq_true_eq] at h2
  obtain ⟨r, rfl⟩ := Int.eq_ofNat_of_zero_le (show 0 ≤ k by omega)
  obtain rfl : a = 1 := by omega
  unfold ordR
  rw [h0, if_pos rfl]
  simp only [Int.toNat_natCast]
  rw [oneRow_math b1 b6 (by omega) (by omega)]
  rfl
end Go.Proofs.Ytpgcpmfemcfoaaa

/-
  The draw of FnCountOrders and FnOneRow. (Walks.)
-/
namespace Go.Proofs.Ytpgcpmfemcfoaaa
open Go.RowKit

def RomD (z : Int) : Prop := 0 ≤ z ∧ z ≤ 6
set_option maxRecDepth 100000 in
theorem drawCountOrders_any (aC : Option Addr) (kC : Nat) (c : List UInt8) (w : World) (zC : c.length ≤ kC) (dC : c.length ≤ 1048576) (cC : CellsAt w aC (c.map byteV)) :
    Calls Try.prog 23 #[.slice aC c.length kC] w fun e w' => ∃ x y z : Int, e = .returned (.tuple #[.int .i64 x, .int .i64 y, .int .i64 z]) ∧ (SizD x y ∧ RomD z) ∧ Below w.heap.size w w' := by
  have HO := Lib.hid (l6Open_any aC kC c w zC dC cC)
  clear cC
  go_enter Try.func23, Try.ntmps23
  go_wp2_with fail
  refine HO.out.mono ?_
  rintro e w1 ⟨rfl, hr1, hb1⟩
  go_wp2_with fail
  refine (l92Size_any _ _ hr1).mono ?_
  rintro e w2 ⟨x, y, rfl, hd, hr2, hg2⟩
  go_wp2_with fail
  refine (pick_any 4 _ 6 _ (by omega) hr2).mono ?_
  rintro e w3 ⟨v1, rfl, hv1, hr3, hg3⟩
  have hl1 : v1 < 6 := by omega
  clear hv1 hr2
  go_wp2_with fail
  refine (pick_any 5 _ 24 _ (by omega) hr3).mono ?_
  rintro e w4 ⟨v2, rfl, hv2, hr4, hg4⟩
  have hl2 : v2 < 24 := by omega
  clear hv2 hr3
  have hb := below_zpicks hb1 (Nat.le_refl _) hb1.size (grownBy_trans hg2 (grownBy_trans hg3 hg4))
  clear hg2 hg3 hg4 hr4 hr1 hb1
  go_wp2
  refine bodyPost_ret (v := .tuple #[.int .i64 x, .int .i64 y, .int .i64 (1 + (v1 : Int) - (v2 : Int) / 23)]) (by simp [results, Try.results23, go_sem]) rfl ⟨_, _, _, rfl, ⟨hd, ?_⟩, hb⟩
  unfold RomD
  omega
end Go.Proofs.Ytpgcpmfemcfoaaa
