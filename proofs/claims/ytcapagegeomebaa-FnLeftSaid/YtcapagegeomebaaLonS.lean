
/-
  The longest rows of rooms: the model's, and both answers. (Walks.)
-/
import Derived.Test.YtcapagegeomebaaLonI
import Derived.Test.YtcapagegeomebaaOrdAB
namespace Go.Proofs.Ytcapagegeomebaa
open Go.RowKit

/-! # numbers that grow round by round -/
structure BeA (G : Nat → Nat) (r t : Nat) (S : List Nat) : Prop where
  len : S.length = r
  up : ∀ a, a < r → S.getD a 0 ≤ G a
  lo : ∀ a, a < r → min t (G a) ≤ S.getD a 0
structure BeI (G : Nat → Nat) (M r t i m : Nat) (S : List Nat) : Prop where
  all : BeA G r t S
  few : m ≤ M
  hi : ∀ a, a < i → min (t + 1) (G a) ≤ S.getD a 0
  mo : ∀ a, a < i → S.getD a 0 ≤ m
structure BeJ (f : Nat → Nat → Bool) (G : Nat → Nat) (M r t i m j : Nat) (S : List Nat) : Prop where
  old : BeI G M r t i m S
  one : 1 ≤ S.getD i 0
  st : ∀ b, b < j → f i b = true → S.getD b 0 + 1 ≤ S.getD i 0
theorem BeI.start {G : Nat → Nat} {M r t m : Nat} {S : List Nat} (h : BeA G r t S) (hm : m ≤ M) : BeI G M r t 0 m S := ⟨h, hm, fun a ha => by omega, fun a ha => by omega⟩
theorem BeI.grow {G : Nat → Nat} {M r t i m : Nat} {S : List Nat} (h : BeI G M r t i m S) (hi : i < r) {v : Nat} (h1 : S.getD i 0 ≤ v) (h2 : v ≤ G i) : BeI G M r t i m (S.set i v) := by
  have hl := h.all.len
  have hs : ∀ a, (S.set i v).getD a 0 = if a = i then v else S.getD a 0 := fun a => getD_set S i a v (by omega)
  refine ⟨⟨by rw [List.length_set]; exact hl, fun a ha => ?_, fun a ha => ?_⟩, h.few, fun a ha => ?_, fun a ha => ?_⟩
  · rw [hs]; split
    · rename_i e; subst e; exact h2
    · exact h.all.up a ha
  · rw [hs]; split
    · rename_i e; subst e; have := h.all.lo a ha; omega
    · exact h.all.lo a ha
  · rw [hs, if_neg (by omega)]; exact h.hi a ha
  · rw [hs, if_neg (by omega)]; exact h.mo a ha
theorem BeI.first {f : Nat → Nat → Bool} {G : Nat → Nat} {M r t i m : Nat} {S : List Nat} (h : BeI G M r t i m S) (hi : i < r) (hG : 1 ≤ G i) : BeJ f G M r t i m 0 (S.set i (max (S.getD i 0) 1)) := by
  have hup := h.all.up i hi
  refine ⟨h.grow hi (by omega) (by omega), ?_, fun b hb => by omega⟩
  rw [getD_set _ _ _ _ (by rw [h.all.len]; exact hi), if_pos rfl]; omega
theorem BeJ.skip {f : Nat → Nat → Bool} {G : Nat → Nat} {M r t i m j : Nat} {S : List Nat} (h : BeJ f G M r t i m j S) (hf : f i j = false) : BeJ f G M r t i m (j + 1) S :=
  ⟨h.old, h.one, fun b hb hfb => by
    by_cases hbj : b = j
    · subst hbj; rw [hf] at hfb; cases hfb
    · exact h.st b (by omega) hfb⟩
theorem BeJ.step {f : Nat → Nat → Bool} {G : Nat → Nat} {M r t i m j : Nat} {S : List Nat} (h : BeJ f G M r t i m j S) (hi : i < r) (hj : j < r) (hirr : ∀ b, f i b = true → b ≠ i) (hf : f i j = true) (hG : G j + 1 ≤ G i) :
    BeJ f G M r t i m (j + 1) (S.set i (max (S.getD i 0) (S.getD j 0 + 1))) := by
  have h1 := h.old.all.up i hi
  have h2 := h.old.all.up j hj
  have hs : ∀ a, (S.set i (max (S.getD i 0) (S.getD j 0 + 1))).getD a 0 = if a = i then max (S.getD i 0) (S.getD j 0 + 1) else S.getD a 0 := fun a => getD_set S i a _ (by rw [h.old.all.len]; exact hi)
  refine ⟨h.old.grow hi (by omega) (by omega), ?_, fun b hb hfb => ?_⟩
  · rw [hs, if_pos rfl]; have := h.one; omega
  · rw [hs, hs, if_pos rfl, if_neg (hirr b hfb)]
    by_cases hbj : b = j
    · subst hbj; omega
    · have := h.st b (by omega) hfb; omega
theorem BeJ.done {f : Nat → Nat → Bool} {G : Nat → Nat} {M r t i m : Nat} {S : List Nat} (h : BeJ f G M r t i m r S) (hi : i < r) (hsome : 2 ≤ G i → ∃ b, b < r ∧ f i b = true ∧ G i ≤ G b + 1) (hM : G i ≤ M) : BeI G M r t (i + 1) (max m (S.getD i 0)) S := by
  have h1 := h.old.all.up i hi
  have h3 := h.one
  have key : min (t + 1) (G i) ≤ S.getD i 0 := by
    rcases Nat.lt_or_ge (G i) 2 with hg | hg
    · omega
    · obtain ⟨b, b1, b2, b3⟩ := hsome hg
      have h4 := h.st b b1 b2
      have h5 := h.old.all.lo b b1
      omega
  refine ⟨h.old.all, by have := h.old.few; omega, fun a ha => ?_, fun a ha => ?_⟩
  · by_cases hai : a = i
    · subst hai; exact key
    · exact h.old.hi a (by omega)
  · by_cases hai : a = i
    · subst hai; omega
    · have := h.old.mo a (by omega); omega
theorem BeI.round {G : Nat → Nat} {M r t m : Nat} {S : List Nat} (h : BeI G M r t r m S) : BeA G r (t + 1) S ∧ ∀ a, a < r → S.getD a 0 ≤ m := ⟨⟨h.all.len, h.all.up, h.hi⟩, h.mo⟩

theorem max_one (y : Nat) : (if (y : Int) < 1 then (1 : Int) else (y : Int)) = ((max y 1 : Nat) : Int) := by split <;> omega
theorem max_int1 (y z : Nat) : (if (y : Int) < 1 + (z : Int) then 1 + (z : Int) else (y : Int)) = ((max y (z + 1) : Nat) : Int) := by split <;> omega
theorem max_int0 (y z : Nat) : (if y < z then (z : Int) else (y : Int)) = ((max y z : Nat) : Int) := by split <;> omega

set_option maxRecDepth 100000 in
set_option maxHeartbeats 4000000 in
theorem l5Longest_any (gs r : Nat) (S0 : List Nat) (f q : Nat → Nat → Bool) (w : World) (hr : r ≤ 9) (hr1 : 1 ≤ r) (G : Goes f q r) (his : IsSets S0 r f) (hB0 : HeldB w gs 3 (setsV S0)) :
    Calls Try.prog 46 #[.slice (some ⟨gs, 0, none⟩) S0.length S0.length] w
      fun e w' => e = .returned (.int .i64 (lonQ f q r : Nat)) ∧ Below w.heap.size w w' := by
  rw [his.len]
  have HBIT := Lib.hid (fun (x y : Nat) (hx : x < r) => show (bits .and .i64 (((S0.getD x 0 : Nat) : Int) / 2 ^ y) 1 == 1) = f x y by
    rw [← his.bit x y hx]; exact bit_i64 _ y (his.low x hx))
  have HCEL := Lib.hid (fun (x : Nat) (hx : x < r) => show (setsV S0)[x]? = some (.int .i64 ((S0.getD x 0 : Nat) : Int)) from setsV_at (by rw [his.len]; exact hx))
  have HG1 := Lib.hid (fun a => loM_pos f r a)
  have HGS := Lib.hid (fun a b (hf : f a b = true) => G.lo_step hf)
  have HGO := Lib.hid (fun a (ha : a < r) (h : 2 ≤ loM f r a) => G.lo_some ha h)
  have HGM := Lib.hid (fun a (ha : a < r) => G.lo_le ha)
  have HM := Lib.hid G.long_le
  have HIS := Lib.hid (G.lo_is hr1)
  have HIR := Lib.hid (fun a b (hf : f a b = true) => show b ≠ a from fun e => by
    subst e
    obtain ⟨h1, _, h3⟩ := G.imp _ _ hf
    rw [G.lin.irr b h1] at h3; cases h3)
  clear G his
  generalize loM f r = H at *
  generalize lonQ f q r = M at *
  obtain ⟨im, hmi, hmz, hm1, hm2⟩ := info_parts Try.infoNum
  go_enter Try.func46, Try.ntmps46
  go_wp2_with (at_make; refine wpList_make_full _ rfl _ _ 35 rfl w.heap.size 3 im (.int .i64 0) 1 Try.underlying35 hmi hmz hm1 .i64 .i64 _ _ r rfl rfl rfl rfl ?d2 ?d3 (Nat.le_refl _) ?_; rotate_left 2; intro w3 ho3 hg3; have hb3 : Below w.heap.size w w3 := below_of_grownBy hg3 (Nat.le_refl _) (fun k hk => by cases hk); have hz := held_zeros ho3)
  case d2 => rw [hm2]; omega
  case d3 => unfold maxLen; omega
  have hgn : gs ≠ w.heap.size := by have := hB0.lt; omega
  have st3 : PeSt w gs w.heap.size S0 (List.replicate r 0) w3 := ⟨hB0.below hb3, hz, hb3⟩
  have be3 : BeA H r 0 (List.replicate r 0) := ⟨List.length_replicate, fun a ha => by simp [ha], fun a ha => by simp⟩
  clear hz hB0 hb3 ho3 hg3
  go_loopw [4, 5] (fun v4 v5 wr => ∃ t : Nat, t ≤ r ∧ v5 = .int .i64 t ∧ ∃ (m : Nat) (S : List Nat), v4 = .int .i64 m ∧ m ≤ M ∧ PeSt w gs w.heap.size S0 S wr ∧ BeA H r t S ∧ (1 ≤ t → ∀ a, a < r → S.getD a 0 ≤ m)) (fun _ v _ => r - (intOf v).toNat)
  case atStart => exact ⟨0, Nat.zero_le _, rfl, 0, _, rfl, Nat.zero_le _, st3, be3, fun h => by omega⟩
  case round =>
    clear st3 be3
    obtain ⟨t, ht, rfl, m, S, rfl, hm, hst, hbe, hmo⟩ := hrel
    have hM9 := HM.out
    by_cases htr : t < r
    · have hbi := BeI.start hbe hm
      clear hbe hmo hm
      go_wp2
      go_loopw [4, 6] (fun v4 v6 wr => ∃ i : Nat, i ≤ r ∧ v6 = .int .i64 i ∧ ∃ (m : Nat) (S : List Nat), v4 = .int .i64 m ∧ PeSt w gs w.heap.size S0 S wr ∧ BeI H M r t i m S) (fun _ v _ => r - (intOf v).toNat)
      case atStart => exact ⟨0, Nat.zero_le _, rfl, m, S, rfl, hst, hbi⟩
      case round =>
        clear hst hbi

        obtain ⟨i, hi, rfl, m, S, rfl, hst, hbi⟩ := hrel
        by_cases hir : i < r
        · have hl := hbi.all.len
          have k1 := (hst.2.1.cell i).trans (setsV_at (S := S) (by rw [hl]; exact hir))
          have f1 := hst.2.1.frozen i
          have hu := hbi.all.up i hir
          have hgm := HGM.out i hir
          have hbj := BeI.first (f := f) hbi hir (HG1.out i)
          have hiri : (i : Int) < (r : Int) := by omega
          have HST := Lib.hid (fun (mm : Nat) => hst.put (T := S.set i mm) hgn (Nat.le_refl _) i mm rfl)
          obtain ⟨mm, hmm⟩ : ∃ mm, mm = max (S.getD i 0) 1 := ⟨_, rfl⟩
          rw [← hmm] at hbj
          have hst3 := HST.out mm
          obtain ⟨y, hy⟩ : ∃ y, y = S.getD i 0 := ⟨_, rfl⟩
          rw [← hy] at k1 hmm hu
          have HMX := Lib.hid (show (if (y : Int) < 1 then (1 : Int) else (y : Int)) = (mm : Int) by rw [max_one, hmm])
          clear hst hbi hl hy HST HMX
          rcases (show (y = 0 ∧ mm = 1) ∨ (1 ≤ y ∧ mm = y) by omega) with ⟨rfl, rfl⟩ | ⟨hy1, rfl⟩
          all_goals
            have hyi : (1 : Int) ≤ (1 : Int) := Int.le_refl _
            clear hmm
            try rw [show ((1 : Nat) : Int) = 1 from rfl] at hst3
            try have hyj : (1 : Int) ≤ (mm : Int) := by omega
            go_wp2
            try (exfalso; omega)
            go_loopw [7] (fun v7 wr => ∃ j : Nat, j ≤ r ∧ v7 = .int .i64 j ∧ ∃ S : List Nat, PeSt w gs w.heap.size S0 S wr ∧ BeJ f H M r t i m j S) (fun v _ => r - (intOf v).toNat)
            case atStart => exact ⟨0, Nat.zero_le _, rfl, _, hst3, hbj⟩
            case round =>
              clear hst3 hbj k1 f1 hu
              obtain ⟨j, hj, rfl, S, hst, hbj⟩ := hrel
              by_cases hjr : j < r
              · have hl := hbj.old.all.len
                have c1 := (hst.1.cell i).trans (HCEL.out i hir)
                have t1 := HBIT.out i j hir
                have hjri : (j : Int) < (r : Int) := by omega
                generalize S0.getD i 0 = z at *
                cases hf : f i j
                · rw [hf] at t1
                  have hbj2 := hbj.skip hf
                  clear hbj
                  go_wp2
                  go_roundw
                  case rel => exact ⟨j + 1, by omega, by go_num, S, hst, hbj2⟩
                  case measure => simp [intOf]; omega
                · rw [hf] at t1
                  have k1 := (hst.2.1.cell i).trans (setsV_at (S := S) (by rw [hl]; exact hir))
                  have k2 := (hst.2.1.cell j).trans (setsV_at (S := S) (by rw [hl]; exact hjr))
                  have f1 := hst.2.1.frozen i
                  have hu1 := hbj.old.all.up i hir
                  have hu2 := hbj.old.all.up j hjr
                  have hg1 := HGM.out i hir
                  have hg2 := HGM.out j hjr
                  have hbj2 := hbj.step hir hjr (fun b hb => HIR.out i b hb) hf (HGS.out i j hf)
                  have HST := Lib.hid (fun (mm : Nat) => hst.put (T := S.set i mm) hgn (Nat.le_refl _) i mm rfl)
                  obtain ⟨mm, hmm⟩ : ∃ mm, mm = max (S.getD i 0) (S.getD j 0 + 1) := ⟨_, rfl⟩
                  rw [← hmm] at hbj2
                  have hst3 := HST.out mm
                  obtain ⟨y, hy⟩ : ∃ y, y = S.getD i 0 := ⟨_, rfl⟩
                  obtain ⟨x, hx⟩ : ∃ x, x = S.getD j 0 := ⟨_, rfl⟩
                  rw [← hy] at k1 hmm hu1
                  rw [← hx] at k2 hmm hu2
                  have HMX := Lib.hid (show (if (y : Int) < 1 + (x : Int) then 1 + (x : Int) else (y : Int)) = (mm : Int) by rw [max_int1, hmm])
                  clear hst hbj hl hy hx hmm HST
                  go_wp2
                  go_region
                  rw [HMX.out]
                  go_wp2
                  go_roundw
                  case rel => exact ⟨j + 1, by omega, by go_num, _, ⟨hst3.1.drew, hst3.2.1.drew, hst3.2.2.drew⟩, hbj2⟩
                  case measure => simp [intOf]; omega
              · obtain rfl : j = r := by omega
                have hl := hbj.old.all.len
                have k1 := (hst.2.1.cell i).trans (setsV_at (S := S) (by rw [hl]; exact hir))
                have hfm := hbj.old.few
                have hu := hbj.old.all.up i hir
                have hgm := HGM.out i hir
                have hbi2 := hbj.done hir (fun h2 => HGO.out i hir h2) hgm
                obtain ⟨y, hy⟩ : ∃ y, y = S.getD i 0 := ⟨_, rfl⟩
                rw [← hy] at k1 hbi2 hu
                obtain ⟨mm, hmm⟩ : ∃ mm, mm = max m y := ⟨_, rfl⟩
                rw [← hmm] at hbi2
                have HMX := Lib.hid (show (if m < y then (y : Int) else (m : Int)) = (mm : Int) by rw [max_int0, hmm])
                clear hbj hl hy hmm
                go_wp2
                rw [HMX.out]
                go_roundw
                case rel => exact ⟨i + 1, by omega, by go_num, mm, S, rfl, hst, hbi2⟩
                case measure => simp [intOf]; omega
        · obtain rfl : i = r := by omega
          have hfm := hbi.few
          obtain ⟨hb1, hb2⟩ := hbi.round
          clear hbi
          go_wp2
          go_roundw
          case rel => exact ⟨t + 1, by omega, by go_num, m, S, rfl, hfm, hst, hb1, fun _ => hb2⟩
          case measure => simp [intOf]; omega
    · obtain rfl : t = r := by omega
      have hfin : m = M := by
        obtain ⟨a, ha, hMa⟩ := HIS.out
        have h1 := hbe.lo a ha
        have h2 := hmo hr1 a ha
        have h3 := HGM.out a ha
        omega
      subst hfin
      clear hbe hmo
      go_wp2
      go_ret
      exact ⟨rfl, hst.2.2⟩
end Go.Proofs.Ytcapagegeomebaa
