
/-
  Plans beside each other: their rooms, and read backwards. (Mathematics.)
-/
import Derived.Test.YtlbdkjhfnjofiaaPair
import Derived.Test.YtlbdkjhfnjofiaaAreas
namespace Go.Proofs.Ytlbdkjhfnjofiaa
open Go.RowKit

theorem mem_markF {h wd : Nat} {m : Nat → Nat → Nat} {x : Nat} : x ∈ markF h wd m ↔ ∃ i j, i < h ∧ j < wd ∧ m i j = x := by
  constructor
  · intro hx
    unfold markF at hx
    rw [mem_firsts] at hx
    obtain ⟨k, hk, rfl⟩ := markL_mem hx
    obtain ⟨c1, c2, _⟩ := cell_of hk
    exact ⟨_, _, c1, c2, rfl⟩
  · rintro ⟨i, j, hi, hj, rfl⟩
    exact markF_mem hi hj
theorem markF_nodup (h wd : Nat) (m : Nat → Nat → Nat) : (markF h wd m).Nodup := firsts_nodup _
theorem bes_count {h wd wd' : Nat} {a b : Nat → Nat → Nat} (ha : ∀ i j, i < h → j < wd → a i j < 9) :
    (markF h (wd + wd') (besM wd a b)).length = (markF h wd a).length + (markF h wd' b).length := by
  have hp : (markF h (wd + wd') (besM wd a b)).Perm (markF h wd a ++ (markF h wd' b).map fun x => 9 + x) := by
    refine (List.perm_ext_iff_of_nodup (markF_nodup _ _ _) ?_).2 fun x => ?_
    · rw [List.nodup_append]
      refine ⟨markF_nodup _ _ _, ?_, ?_⟩
      · exact List.Pairwise.map _ (fun x y hxy he => hxy (by omega)) (markF_nodup h wd' b)
      · intro x hx y hy
        obtain ⟨i, j, hi, hj, rfl⟩ := mem_markF.1 hx
        rw [List.mem_map] at hy
        obtain ⟨z, _, rfl⟩ := hy
        have := ha i j hi hj
        omega
    · rw [List.mem_append, mem_markF, mem_markF, List.mem_map]
      constructor
      · rintro ⟨i, j, hi, hj, rfl⟩
        unfold besM
        by_cases h1 : j < wd
        · rw [if_pos h1]; exact .inl ⟨i, j, hi, h1, rfl⟩
        · rw [if_neg h1]; exact .inr ⟨_, mem_markF.2 ⟨i, j - wd, hi, by omega, rfl⟩, rfl⟩
      · rintro (⟨i, j, hi, hj, rfl⟩ | ⟨z, hz, rfl⟩)
        · exact ⟨i, j, hi, by omega, by unfold besM; rw [if_pos hj]⟩
        · obtain ⟨i, j, hi, hj, rfl⟩ := mem_markF.1 hz
          exact ⟨i, wd + j, hi, by omega, by unfold besM; rw [if_neg (by omega), Nat.add_sub_cancel_left]⟩
  rw [hp.length_eq, List.length_append, List.length_map]
theorem Is.rooms {p : List ByteArray} {h wd : Nat} {m : Nat → Nat → Nat} (x : Is p h wd m) : roomsOr p = ((markF h wd m).length : Nat) := by
  have hP := planP_of x.plan
  rw [roomsOr_yes x.plan, hP.rooms]
  unfold gridR
  have e1 := markF_len (ren_pattern p.length (wideB p) (markN p))
  have e2 := markF_len x.same
  rw [x.len, x.wide] at e1
  rw [x.len, x.wide]
  rw [show gridG p = renG h wd (markN p) by unfold gridG; rw [x.len, x.wide]] at e2
  omega
theorem beside_rooms {p q : List ByteArray} (h : besideOk p q = true) : roomsOr (namesB (besideT p q)) = roomsOr p + roomsOr q := by
  obtain ⟨hp, hq, he, x⟩ := is_beside h
  have xp := Is.self hp; have xq := Is.self hq
  rw [x.rooms, xp.rooms, xq.rooms, bes_count fun i j hi hj => gridG_9 hp hi hj, he]
  simp
theorem beside_flip {p q : List ByteArray} (h : besideOk p q = true) : planB p = true ∧ planB q = true ∧ planB (namesB (besideT p q)) = true ∧ besideOk (namesB (flipB q)) (namesB (flipB p)) = true ∧
    namesB (besideT (namesB (flipB q)) (namesB (flipB p))) = namesB (flipB (namesB (besideT p q))) := by
  obtain ⟨hp, hq, he, x⟩ := is_beside h
  have xp := is_flip hp; have xq := is_flip hq
  have y := x.flip
  rw [Nat.add_comm (wideB p) (wideB q)] at y
  have hs : SameG p.length (wideB q + wideB p) (fun i j => besM (wideB p) (gridG p) (gridG q) i (wideB q + wideB p - 1 - j)) (besM (wideB q) (gridG (namesB (flipB q))) (gridG (namesB (flipB p)))) := fun i j i' j' hi hj hi' hj' => by
    have sp := xp.same; have sq := xq.same
    rw [← he] at sq
    have q9 : ∀ i j, i < p.length → j < wideB q → gridG (namesB (flipB q)) i j < 9 := fun i j hi hj => gridG_9 xq.plan (by rw [xq.len, ← he]; exact hi) (by rw [xq.wide]; exact hj)
    unfold besM
    simp only
    by_cases h1 : j < wideB q <;> by_cases h2 : j' < wideB q
    · rw [if_pos h1, if_pos h2, if_neg (by omega), if_neg (by omega)]
      have := sq i j i' j' hi h1 hi' h2
      simp only at this
      rw [show wideB q + wideB p - 1 - j - wideB p = wideB q - 1 - j by omega, show wideB q + wideB p - 1 - j' - wideB p = wideB q - 1 - j' by omega]
      omega
    · rw [if_pos h1, if_neg h2, if_pos (by omega), if_neg (by omega)]
      have := gridG_9 hp hi' (show wideB q + wideB p - 1 - j' < wideB p by omega)
      have := q9 i j hi h1
      constructor <;> intro h <;> omega
    · rw [if_neg h1, if_pos h2, if_neg (by omega), if_pos (by omega)]
      have := gridG_9 hp hi (show wideB q + wideB p - 1 - j < wideB p by omega)
      have := q9 i' j' hi' h2
      constructor <;> intro h <;> omega
    · rw [if_neg h1, if_neg h2, if_pos (by omega), if_pos (by omega)]
      have := sp i (j - wideB q) i' (j' - wideB q) hi (by omega) hi' (by omega)
      simp only at this
      rw [show wideB p - 1 - (j - wideB q) = wideB q + wideB p - 1 - j by omega, show wideB p - 1 - (j' - wideB q) = wideB q + wideB p - 1 - j' by omega] at this
      omega
  have hb : besideOk (namesB (flipB q)) (namesB (flipB p)) = true := by
    unfold besideOk
    have hl : (namesB (flipB q)).length = (namesB (flipB p)).length := by rw [xp.len, xq.len, he]
    have hw := (beside_math xq.plan xp.plan hl).1
    rw [xp.plan, xq.plan, hw, xq.len, xp.wide, xq.wide, decide_eq_true (by rw [← xq.len]; exact hl), Bool.true_and, Bool.true_and, Bool.true_and, ← he, drawOk_pattern hs]
    exact y.draw
  refine ⟨hp, hq, x.plan, hb, ?_⟩
  obtain ⟨_, _, _, z⟩ := is_beside hb
  rw [xq.len, xp.wide, xq.wide, ← he] at z
  exact z.eq y (hs.symm)

end Go.Proofs.Ytlbdkjhfnjofiaa
