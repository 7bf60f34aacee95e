
/-
  The first colours of rooms: the model's answers. (Walks.)
-/
import Derived.Test.YtgiikdcjigcnlaaBfsS
import Derived.Test.YtgiikdcjigcnlaaCol
import Derived.Maps.AppendAt
import Derived.Deep.Cut

namespace Go.Proofs.Ytgiikdcjigcnlaa
open Go.RowKit

/-- whether two rooms are neighbours -/
def nearB (p : List ByteArray) (a b : Nat) : Bool := decide (0 < besN p (a : Int) (b : Int))
def fitN (near : Nat → Nat → Bool) (C : List Nat) (c b : Nat) : Bool := (List.range b).all fun b => !(C.getD b 0 == c && near C.length b)
theorem fitN_all (near : Nat → Nat → Bool) (C : List Nat) (c : Nat) : fitN near C c C.length = fitC near C c := rfl
theorem fitN_succ (near : Nat → Nat → Bool) (C : List Nat) (c b : Nat) : fitN near C c (b + 1) = (fitN near C c b && !(C.getD b 0 == c && near C.length b)) := by
  unfold fitN; rw [List.range_succ, List.all_append]; simp
theorem intsN_one (L : List Nat) : ∀ v ∈ intsN L, v.oneCell' = true := fun v hv => by
  obtain ⟨_, _, rfl⟩ := List.mem_map.1 hv; rfl

/-- numbers are put behind numbers of the call's own -/
theorem wpList_pushM {P : Program} (w : World) {ops : Array Oper} {rest : List Oper} {o : Oper} {a : Act} {Q : Exit → Act → World → Prop} (hgd : o.guard = none) (s x : Operand) (t : TypeId)
    (ho : o.op = .call { callee := .builtin .append, args := #[s, x], argTypes := #[t, t] })
    (base : Nat) (e : TypeId) (i : TypeInfo) (z : Value) (bytes : Nat) (ht : P.underlying t = some (.slice e)) (hi : P.info? e = some i) (hz : i.zero = some z)
    (hsize : i.size = 1) (hby : i.bytes = bytes) (hzs : z.cells.size = 1) (ao : Option Addr) (n cap : Nat) (xs : List Value) (hs : a.eval s = .slice ao n cap) (hown : w.ownsRow base e 1 (.slice ao n cap) n xs)
    (us : List Value) (m N : Nat) (hN : n + m = N) (g off c : Nat) (hx : a.eval x = .slice (some ⟨g, off, none⟩) m c) (hl : us.length = m) (hu : CellsAt w (some ⟨g, off, none⟩) us) (h1 : ∀ v ∈ us, v.oneCell' = true) (h63 : n + m ≤ maxLen) (hbytes : (n + m) * bytes ≤ 140737488355328) (hbase : base ≤ w.heap.size)
    (h : ∀ ao' cap' w', w'.ownsRow base e 1 (.slice ao' N cap') N (xs ++ us) → w.grownBy w' (Value.ownBlock (.slice ao n cap)) → wpList P ops Q rest (a.put o.dst (.slice ao' N cap')) w') : wpList P ops Q (o :: rest) a w := by
  subst hN
  have hu' : ∀ j v, us[j]? = some v → w.cell? ⟨g, off + j, none⟩ = some v := fun j v hj => by
    obtain ⟨b', off', e, hc⟩ := hu j v hj
    cases e
    exact hc
  refine Go.wpList_append_own_at w hgd s x t ho base e i z 1 bytes ht hi hz hsize hby hzs (by decide) _ n xs hs hown ⟨g, off, none⟩ m c us hx (by omega) (fun j u hj => by rw [← hu' j u hj, Addr.add_lit]) h1 h63 hbytes hbase ?_
  intro v' w' hown' hg _ _
  obtain ⟨ao', cap', rfl, _, _⟩ := ownsRow_cells hown'
  exact h ao' cap' w' hown' hg

/-- what comes back: a list of the call's own, and whether there is one -/
def ColRet (base : Nat) (o : Option (List Nat)) (e : Ending) (w' : World) : Prop :=
  ∃ g rc, e = .returned (.tuple #[.slice (some ⟨g, 0, none⟩) (o.getD []).length rc, .bool o.isSome]) ∧ w'.ownsRow base 3 1 (.slice (some ⟨g, 0, none⟩) (o.getD []).length rc) (o.getD []).length (intsN (o.getD []))

set_option maxRecDepth 100000 in
set_option maxHeartbeats 8000000 in
theorem l4Colour_any (ao : Option Addr) (cap : Nat) (p : List ByteArray) (many : Nat) (hp : planB p = true) (hm : many ≤ 9) (hl : p.length ≤ 1048576) (hs : ∀ s ∈ p, s.size ≤ 1048576) :
    ∀ (k : Nat) (C : List Nat) (base g cc : Nat) (w : World), C.length + k = gridR p → base ≤ w.heap.size → CellsAt w ao (p.map Value.string) → w.ownsRow base 3 1 (.slice (some ⟨g, 0, none⟩) C.length cc) C.length (intsN C) →
    Calls Try.prog 44 #[.slice ao p.length cap, .slice (some ⟨g, 0, none⟩) C.length cc, .int .i64 many] w
      fun e w' => ColRet base (colS (nearB p) many k C) e w' ∧ Below w.heap.size w w'
  | 0, C, base, g, cc, w, hCk, hbw, hc, hown => by
    have HR := Lib.hid (fun w c => l1Rooms_any ao cap p w hl hs c)
    rw [(planP_of hp).rooms] at HR
    have hn : C.length = gridR p := hCk
    have hceq : ((C.length : Int) == (gridR p : Int)) = true := by rw [beq_iff_eq]; omega
    show Calls _ _ _ _ fun e w' => ColRet base (some C) e w' ∧ _
    have HE := Lib.hid hown
    generalize gridR p = n at *
    clear hown hCk
    have HN := Lib.hid hn
    clear hn
    go_enter Try.func44, Try.ntmps44
    go_wp2_with fail
    refine (HR.out _ hc).mono ?_
    rintro e w2 ⟨rfl, hww⟩
    subst hww
    go_wp2
    go_ret2
    exact ⟨⟨g, cc, rfl, HE.out⟩, Below.refl _ _⟩
  | k + 1, C, base, g, cc, w, hCk, hbw, hc, hown => by
    obtain ⟨it, hti0, htz, ht1, ht2⟩ := info_parts Try.infoNum
    have HIH := Lib.hid (fun (C : List Nat) (base g cc : Nat) (w : World) h1 h2 h3 h4 => l4Colour_any ao cap p many hp hm hl hs k C base g cc w h1 h2 h3 h4)
    have HR := Lib.hid (fun w c => l1Rooms_any ao cap p w hl hs c)
    rw [(planP_of hp).rooms] at HR
    have hg := (planP_of hp).grid
    have h9 := (planP_of hp).few
    have HB := Lib.hid (fun (a b : Nat) w c => l4Beside_any ao cap _ p (a : Int) (b : Int) w rfl hg c)
    have HNB := Lib.hid (fun a b => show nearB p a b = decide (0 < besN p (a : Int) (b : Int)) from rfl)
    have hceq : ((C.length : Int) == (gridR p : Int)) = false := by rw [beq_eq_false_iff_ne]; omega
    have HFS := Lib.hid (fun c (h : ∀ j, j < c → colF (nearB p) many k C j = none) => show (c < many → ∀ o, colF (nearB p) many k C c = some o → colS (nearB p) many (k + 1) C = some o) from fun hc o ho => by rw [colS_succ]; exact fs_some h hc ho)
    have HFN := Lib.hid (fun (h : ∀ j, j < many → colF (nearB p) many k C j = none) => show colS (nearB p) many (k + 1) C = none by rw [colS_succ]; exact fs_none h)
    have HC := Lib.hid hc
    have HO := Lib.hid hown
    have hC9 : C.length + 1 ≤ 9 := by omega
    have HCK := Lib.hid (show C.length + 1 + k = gridR p by omega)
    clear hp hl hs hg hc hown hCk
    generalize gridR p = n at *
    generalize hnr : nearB p = near at *
    clear hnr
    go_enter Try.func44, Try.ntmps44
    go_wp2_with fail
    refine (HR.out _ HC.out).mono ?_
    rintro e w2 ⟨rfl, hww⟩
    subst hww
    clear HR
    go_wp2
    go_loopw [9] (fun vc wr => ∃ c : Nat, c ≤ many ∧ vc = .int .i64 c ∧ Hid (∀ j, j < c → colF near many k C j = none) ∧ Below w2.heap.size w2 wr) (fun vc _ => many - (intOf vc).toNat)
    case atStart => exact ⟨0, Nat.zero_le _, rfl, Lib.hid (fun j hj => absurd hj (Nat.not_lt_zero _)), Below.refl _ _⟩
    case round =>
      obtain ⟨c, hcm, rfl, HPRE, hb⟩ := hrel
      by_cases hlt : c < many
      · have hlt' : decide ((c : Int) < (many : Int)) = true := by rw [decide_eq_true_eq]; omega
        go_wp2
        go_loopw [10, 11] (fun vo vb wm => ∃ b : Nat, b ≤ C.length ∧ vb = .int .i64 b ∧ vo = .bool (fitN near C c b) ∧ Below w2.heap.size w2 wm) (fun _ vb _ => C.length - (intOf vb).toNat)
        case atStart => exact ⟨0, Nat.zero_le _, rfl, rfl, hb⟩
        case round =>
          clear hb
          obtain ⟨b, hbn, rfl, rfl, hb⟩ := hrel
          by_cases hbl : b < C.length
          · have hbl' : decide ((b : Int) < (C.length : Int)) = true := by rw [decide_eq_true_eq]; omega
            have HSU := Lib.hid (fitN_succ near C c b)
            have hcr := HC.out.below hb
            have hcc := (owns_cells (ownsRow_below HO.out hb)) b _ (intsN_at hbl)
            obtain ⟨g', o', he, hcb⟩ := hcc
            simp only [Option.some.injEq, Addr.mk.injEq, and_true] at he
            obtain ⟨rfl, rfl⟩ := he
            have hcb0 : wr.cell? ⟨g, b, none⟩ = some (.int .i64 ((C.getD b 0 : Nat) : Int)) := by rw [← hcb]; congr 2; omega
            clear hcb
            have HNB2 := Lib.hid (HNB.out C.length b)
            cases hfo : fitN near C c b
            · rw [hfo, Bool.false_and] at HSU
              generalize C.getD b 0 = x at *
              go_wp2
              go_roundw
              case rel => exact ⟨b + 1, by omega, by go_num, by rw [HSU.out], hb⟩
              case measure => simp [intOf]; omega
            · rw [hfo, Bool.true_and] at HSU
              generalize C.getD b 0 = x at *
              by_cases hxc : x = c
              · have hxd : (x == c) = true := by rw [beq_iff_eq]; exact hxc
                rw [hxd, Bool.true_and] at HSU
                have hne : decide ((x : Int) ≠ (c : Int)) = false := by rw [decide_eq_false_iff_not]; omega
                subst hxc
                clear hxd hne
                go_wp2_with fail
                refine (HB.out _ _ _ hcr).mono ?_
                rintro e w3 ⟨rfl, hb3⟩
                have hb4 := below_step hb hb.size hb3
                cases hnn : near C.length b
                · have hz := HNB2.out
                  rw [hnn, eq_comm, decide_eq_false_iff_not] at hz
                  have hz0 : besN p ((C.length : Nat) : Int) (b : Int) = 0 := by omega
                  rw [hnn] at HSU
                  rw [hz0]
                  clear hz hz0 hnn HNB2
                  go_wp2
                  go_roundw
                  case rel => exact ⟨b + 1, by omega, by go_num, by rw [HSU.out]; rfl, hb4⟩
                  case measure => simp [intOf]; omega
                · have hz := HNB2.out
                  rw [hnn, eq_comm, decide_eq_true_eq] at hz
                  have hzz : ((besN p ((C.length : Nat) : Int) (b : Int) : Int) == 0) = false := by rw [beq_eq_false_iff_ne]; omega
                  rw [hnn] at HSU
                  generalize besN p ((C.length : Nat) : Int) (b : Int) = B at *
                  clear hnn HNB2
                  go_wp2
                  go_roundw
                  case rel => exact ⟨b + 1, by omega, by go_num, by rw [HSU.out]; rfl, hb4⟩
                  case measure => simp [intOf]; omega
              · have hxd : (x == c) = false := by rw [beq_eq_false_iff_ne]; exact hxc
                rw [hxd, Bool.false_and] at HSU
                have hne : ((x : Int) == (c : Int)) = false := by rw [beq_eq_false_iff_ne]; omega
                clear hxd
                go_wp2
                go_roundw
                case rel => exact ⟨b + 1, by omega, by go_num, by rw [HSU.out]; rfl, hb⟩
                case measure => simp [intOf]; omega
          · have hbl' : decide ((b : Int) < (C.length : Int)) = false := by rw [decide_eq_false_iff_not]; omega
            obtain rfl : b = C.length := by omega
            rw [fitN_all]
            cases hfc : fitC near C c
            · have HP2 := Lib.hid (show ∀ j, j < c + 1 → colF near many k C j = none from rows_step HPRE.out (colF_no hfc))
              clear hfc
              go_wp2
              go_roundw
              case rel => exact ⟨c + 1, by omega, by go_num, HP2, hb⟩
              case measure => simp [intOf]; omega
            · have HCF := Lib.hid (colF_yes (many := many) (k := k) hfc)
              have hcr := HC.out.below hb
              have hon := ownsRow_below HO.out hb
              have hcl := owns_cells hon
              have hbs := hb.size
              have hr0 : (wr.alloc (.cells #[] 3)).ownsRow wr.heap.size 3 1 (.slice (some ⟨wr.heap.size, 0, none⟩) 0 0) 0 [] := World.ownsRow_made wr #[] 0 (Nat.le_refl _) (Nat.zero_le _) rfl
              have hcl1 := hcl.below (below_alloc wr (.cells #[] 3))
              have hb1' : 0 + C.length ≤ maxLen := by unfold maxLen; omega
              have hb2' : (0 + C.length) * 8 ≤ 140737488355328 := by omega
              have hb3' : C.length + 1 ≤ maxLen := by unfold maxLen; omega
              have hb4' : (C.length + 1) * 8 ≤ 140737488355328 := by omega
              have hc1 : CellsAt (wr.alloc (.cells #[] 3)) ao (p.map Value.string) := hcr.below (below_alloc wr _)
              have HIL := Lib.hid (intsN_len C)
              clear hfc hcl hon hcr
              go_upto_region 14 with (first
                | (at_builtin; refine wpList_pushM _ rfl (.tmp 50) (.tmp 51) 31 rfl wr.heap.size 3 it (.int .i64 0) 8 Try.underlying31 hti0 htz ht1 ht2 rfl _ 0 0 _ rfl hr0 _ C.length C.length (Nat.zero_add _) g 0 cc rfl HIL.out hcl1 (intsN_one C) hb1' hb2' (by simp) ?_; intro ro2 rc2 w4 hrow2 hg2; rw [List.nil_append] at hrow2; have hz4 := hg2.size; rw [World.size_alloc] at hz4)
                | (at_builtin; refine wpList_push _ rfl (.tmp 52) (.tmp 54) 31 rfl wr.heap.size 3 it (.int .i64 0) 8 Try.underlying31 hti0 htz ht1 ht2 rfl ro2 C.length rc2 _ rfl (hrow2.alloc _) _ _ _ rfl (cell_new _ _ _) rfl hb3' hb4' (by simp; omega) ?_; intro ro3 rc3 w5 hrow3 hg3 hnew3; rw [← intsN_snoc] at hrow3))
              have hw4 : Below wr.heap.size wr w4 := (below_alloc wr _).trans (below_of_grownBy hg2 (by simp) (fun k hk => by simp only [Value.ownBlock, Option.some.injEq] at hk; omega))
              have hw5 : Below wr.heap.size wr w5 := below_push hw4 hw4.size hg3 (fun a ha => (owns_lt hrow2 a ha).1)
              have hb5 := below_step hb hbs hw5
              obtain ⟨g3, rfl⟩ : ∃ g3, ro3 = some ⟨g3, 0, none⟩ := by
                rcases hrow3.2 with ⟨h, h0⟩ | ⟨g, c, cur, h, _⟩
                · omega
                · simp only [Value.slice.injEq] at h; exact ⟨g, h.1⟩
              have hel : (C ++ [c]).length = C.length + 1 := by simp
              have HI := HIH.out (C ++ [c]) base g3 rc3 w5 (by rw [hel]; exact HCK.out) (Nat.le_trans hbw hb5.size) (HC.out.below hb5) (by rw [hel]; exact ownsRow_base hrow3 (Nat.le_trans hbw hbs))
              rw [hel] at HI
              clear hrow2 hrow3 hg2 hg3 hnew3 hw4 hw5 hel hz4 hr0 hcl1 hc1
              refine HI.mono ?_
              rintro e w6 ⟨⟨g6, rc6, rfl, hrow6⟩, hb6⟩
              have hb7 := below_step hb5 hb5.size hb6
              cases hres : colS near many k (C ++ [c]) with
              | none =>
                rw [hres] at HCF
                have HP2 := Lib.hid (show ∀ j, j < c + 1 → colF near many k C j = none from rows_step HPRE.out HCF.out)
                clear HI hrow6 hres
                go_wp2
                go_roundw
                case rel => exact ⟨c + 1, by omega, by go_num, HP2, hb7⟩
                case measure => simp [intOf]; omega
              | some L =>
                rw [hres] at HCF hrow6
                have HFI := Lib.hid (HFS.out c HPRE.out hlt _ HCF.out)
                have HRW := Lib.hid hrow6
                clear HI hrow6 hres
                go_wp2
                go_ret2
                rw [HFI.out]
                exact ⟨⟨g6, rc6, rfl, HRW.out⟩, hb7⟩
      · have hlt' : decide ((c : Int) < (many : Int)) = false := by rw [decide_eq_false_iff_not]; omega
        obtain rfl : c = many := by omega
        have HN := Lib.hid (HFN.out HPRE.out)
        go_wp2
        go_ret2
        rw [HN.out]
        exact ⟨⟨wr.heap.size, 0, rfl, World.ownsRow_made wr #[] 0 (Nat.le_trans hbw hb.size) (Nat.zero_le _) rfl⟩, below_step hb hb.size (below_alloc _ _)⟩

end Go.Proofs.Ytgiikdcjigcnlaa
