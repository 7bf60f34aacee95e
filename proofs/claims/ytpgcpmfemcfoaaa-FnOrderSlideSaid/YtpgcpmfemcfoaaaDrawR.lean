/-
  Merged texts: DrawA DrawB DrawC DrawD DrawE DrawF DrawG DrawH DrawI.
-/
import Derived.Test.YtpgcpmfemcfoaaaPickR
import Derived.Test.YtpgcpmfemcfoaaaWallsR
import Derived.Test.YtpgcpmfemcfoaaaArgsR
import Derived.Test.YtpgcpmfemcfoaaaPutR
import Derived.BigQuiet
import Derived.Laws.BitsAllLaws
import Derived.OpenShut

/-
  Draws. (Walks.)
-/
namespace Go.Proofs.Ytpgcpmfemcfoaaa
open Go.ChangeShapes Go.WideShapes Go.ChangeAt Go.RowKit

set_option maxRecDepth 100000 in
set_option maxHeartbeats 1000000 in
theorem of_any (N B : Nat) (lo : Option Addr) (cap : Nat) (L : List ByteArray) (w : World) (hN : N ≤ 100000) (h1 : 1 ≤ L.length) (h2 : L.length ≤ 100) (h : RdAt N B w) (hc : CellsAt w lo (L.map Value.string)) (hne : ∀ a, lo = some a → a.block ≠ B) :
    Calls Try.prog 137 #[.pointer (some ⟨B, 0, none⟩), .slice lo L.length cap] w
      fun e w' => ∃ s ∈ L, e = .returned (.string s) ∧ RdAt (N + 1) B w' ∧ w.grownBy w' (some B) := by
  have HPK := Lib.hid (pick_any N B (L.length : Nat) w hN h)
  have HC := Lib.hid hc
  clear hc h
  go_enter Try.func137, Try.ntmps137
  go_wp2_with (go_at_call 29; refine (HPK.out).mono ?_; rintro e w1 ⟨v, rfl, hv, hr1, hg1⟩; have hvl : v < L.length := (by omega); obtain ⟨b, o, rfl, hcell⟩ := (HC.out.grown hg1 (fun a ha => by have := hne a ha; simpa using this)).str v hvl)
  go_ret
  exact ⟨L[v], List.getElem_mem hvl, rfl, hr1, hg1⟩

end Go.Proofs.Ytpgcpmfemcfoaaa

/-
  Draws of plans: what they look like. (Walks.)
-/
namespace Go.Proofs.Ytpgcpmfemcfoaaa
open Go.RowKit

/-- texts, so many, each of so many letters -/
def Shp (n m : Nat) (l : List ByteArray) : Prop := l.length = n ∧ ∀ s ∈ l, s.size = m
/-- a drawn list: its cells, apart from the reader -/
def ListAt (B : Nat) (w : World) (ao : Option Addr) (l : List ByteArray) : Prop := CellsAt w ao (l.map Value.string) ∧ ∀ a, ao = some a → a.block ≠ B

theorem ListAt.grown {B : Nat} {w w' : World} {ao : Option Addr} {l : List ByteArray} (h : ListAt B w ao l) (hg : w.grownBy w' (some B)) : ListAt B w' ao l :=
  ⟨h.1.grown hg (fun a ha => by have := h.2 a ha; simpa using this), h.2⟩
theorem ListAt.below {B : Nat} {w w' : World} {ao : Option Addr} {l : List ByteArray} (h : ListAt B w ao l) (hb : Below w.heap.size w w') : ListAt B w' ao l := ⟨h.1.below hb, h.2⟩
theorem grownBy_refl (w : World) (row : Option Nat) : w.grownBy w row := ⟨rfl, rfl, rfl, Nat.le_refl _, fun _ _ _ => rfl⟩
theorem grownBy_b {w w1 w2 : World} {row : Option Nat} (h : w.grownBy w1 row) (hb : Below w1.heap.size w1 w2) : w.grownBy w2 row := grownBy_trans h (grownBy_of_below hb row)

set_option maxRecDepth 100000 in
set_option maxHeartbeats 2000000 in
theorem l91Empty_any (n m : Nat) (w : World) (hn : n ≤ 10) (hm : m ≤ 10) :
    Calls Try.prog 115 #[.int .i64 (n : Nat), .int .i64 (m : Nat)] w
      fun e w' => ∃ ro rc l, Shp n m l ∧ e = .returned (.slice ro l.length rc) ∧ w'.ownsRow w.heap.size 9 1 (.slice ro l.length rc) l.length (l.map Value.string) ∧ Below w.heap.size w w' := by
  obtain ⟨ib, hbi, hbz, hb1, hb2⟩ := info_parts Try.infoByte
  obtain ⟨it, hti, htz, ht1, ht2⟩ := info_parts Try.infoText
  go_enter Try.func115, Try.ntmps115
  go_wp2
  have hW1 := below_alloc w (.cells #[] 9)
  have hr1 : (w.alloc (.cells #[] 9)).ownsRow w.heap.size 9 1 (.slice (some ⟨w.heap.size, 0, none⟩) 0 0) 0 (([] : List ByteArray).map Value.string) := World.ownsRow_made w #[] 0 (Nat.le_refl _) (Nat.zero_le _) rfl
  go_loopw [5, 6] (fun vo vk wr => ∃ (k : Nat) (ro : Option Addr) (rc : Nat) (l : List ByteArray), k ≤ n ∧ vk = .int .i64 k ∧ vo = .slice ro k rc ∧ Shp k m l ∧ wr.ownsRow w.heap.size 9 1 (.slice ro k rc) k (l.map Value.string) ∧ Below w.heap.size w wr) (fun _ k _ => n - (intOf k).toNat)
  case atStart => exact ⟨0, _, _, [], Nat.zero_le _, rfl, rfl, ⟨rfl, fun s hs => by cases hs⟩, hr1, hW1⟩
  case round =>
    clear hr1 hW1
    obtain ⟨k, ro, rc, l, hk, rfl, rfl, hsh, hrow, hb⟩ := hrel
    have hbs := hb.size
    by_cases hlt : k < n
    · have hlt' : decide ((k : Int) < (n : Int)) = true := by rw [decide_eq_true_eq]; omega
      go_wp2
      go_loopw [7, 8] (fun vr vi wm => ∃ (t : Nat) (so : Option Addr) (sc : Nat) (c : List UInt8), t ≤ m ∧ c.length = t ∧ vi = .int .i64 (t : Nat) ∧ vr = .slice so t sc ∧ wm.ownsRow w.heap.size 5 1 (.slice so t sc) t (c.map byteV) ∧
          wm.ownsRow w.heap.size 9 1 (.slice ro k rc) k (l.map Value.string) ∧ Apart so ro ∧ Below w.heap.size w wm) (fun _ vi _ => m - (intOf vi).toNat)
      case atStart => exact ⟨0, _, 0, [], Nat.zero_le _, rfl, rfl, rfl, World.ownsRow_made wr #[] 0 hbs (Nat.zero_le _) rfl, hrow.alloc _, (Apart.fresh (fun a ha => (owns_lt hrow a ha).2) (Nat.le_refl _) 0 none).symm, hb.alloc hbs _⟩
      case round =>
        clear hrow hb hbs
        obtain ⟨t, so, sc, c, ht, hct, rfl, rfl, hnam, hrow, hap, hb⟩ := hrel
        have hbs := hb.size
        by_cases htl : t < m
        · have htl' : decide ((t : Int) < (m : Int)) = true := by rw [decide_eq_true_eq]; omega
          have hb1' : t + 1 ≤ maxLen := by unfold maxLen; omega
          have hb2' : (t + 1) * 1 ≤ 140737488355328 := by omega
          go_wp2_with (at_builtin; refine wpList_push _ rfl _ _ 22 rfl w.heap.size 5 ib (.int .u8 0) 1 Try.underlying22 hbi hbz hb1 hb2 rfl so t sc _ rfl (hnam.alloc _) _ _ _ rfl (cell_new _ _ _) rfl hb1' hb2' (by simp; omega) ?_; intro so2 sc2 w2 hnam2 hg2 hnew2)
          have hlt3 := owns_lt hrow
          have hnm : c.map byteV ++ [Value.int .u8 97] = (c ++ [97]).map byteV := by rw [List.map_append]; rfl
          have HNM := Lib.hid hnm; clear hnm
          go_roundw
          case rel => exact ⟨t + 1, so2, sc2, c ++ [97], by omega, by rw [List.length_append, hct]; rfl, by go_num, rfl, owns_eq hnam2 HNM.out, owns_push_other hrow hg2 hap.symm, apart_push hap hnew2 (fun a ha => (hlt3 a ha).2), below_push hb hbs hg2 (fun a ha => (owns_lt hnam a ha).1)⟩
          case measure => simp [intOf]; omega
        · obtain rfl : t = m := by omega
          have htl' : decide ((t : Int) < (t : Int)) = false := by rw [decide_eq_false_iff_not]; omega
          have hst : l.map Value.string ++ [.string ⟨c.toArray⟩] = (l ++ [(⟨c.toArray⟩ : ByteArray)]).map Value.string := by rw [List.map_append]; rfl
          have HSTT := Lib.hid hst; clear hst
          have hb1' : k + 1 ≤ maxLen := by unfold maxLen; omega
          have hb2' : (k + 1) * 16 ≤ 140737488355328 := by omega
          go_wp2_with (first
            | (at_builtin; refine wpList_push _ rfl _ _ 23 rfl w.heap.size 9 it (.string ⟨#[]⟩) 16 Try.underlying23 hti htz ht1 ht2 rfl ro k rc _ rfl (hrow.alloc _) _ _ _ rfl (cell_new _ _ _) rfl hb1' hb2' (by simp; omega) ?_; intro ro2 rc2 w2 hrow2 hg2 hnew2)
            | (refine wpList_str_of_bytes _ rfl 22 9 5 _ rfl Try.underlying22 Try.underlying5 Try.underlying9 so t sc rfl c hct (owns_cells hnam) ?_))
          have hsh2 : Shp (k + 1) t (l ++ [(⟨c.toArray⟩ : ByteArray)]) := ⟨by rw [List.length_append, hsh.1]; rfl, fun s hs => by
            rcases List.mem_append.1 hs with h | h
            · exact hsh.2 s h
            · rw [List.mem_singleton] at h; subst h; simpa [ByteArray.size] using hct⟩
          go_roundw
          case rel => exact ⟨k + 1, ro2, rc2, _, by omega, by go_num, rfl, hsh2, owns_eq hrow2 HSTT.out, below_push hb hbs hg2 (fun a ha => (owns_lt hrow a ha).1)⟩
          case measure => simp [intOf]; omega
    · obtain rfl : k = n := by omega
      have hlt' : decide ((k : Int) < (k : Int)) = false := by rw [decide_eq_false_iff_not]; omega
      go_wp2
      go_ret
      exact ⟨ro, rc, l, hsh, by rw [hsh.1]; rfl, by rw [hsh.1]; exact hrow, hb⟩

end Go.Proofs.Ytpgcpmfemcfoaaa

/-
  Draws of plans: rooms that are cut. (Walk.)
-/
namespace Go.Proofs.Ytpgcpmfemcfoaaa
open Go.RowKit

theorem split_shape {p : List ByteArray} {room k : Int} {letter : ByteArray} {n m : Nat} (hp : Shp n m p) (h : doneO (splitT p room letter k) = true) : Shp n m (namesO (splitT p room letter k)) := by
  have key : ∀ {r c hi wi : Nat} {x : UInt8}, 1 ≤ p.length → doneB (putB p r c hi wi x) = true → Shp n m (orNone (doneB (putB p r c hi wi x)) (namesB (putB p r c hi wi x))) := fun {r c hi wi x} h1 hd => by
    rw [hd]
    refine ⟨?_, fun s hs => ?_⟩
    · show (namesB _).length = n
      rw [namesB_len]; unfold putB; rw [matB_len]; exact hp.1
    · change s ∈ namesB _ at hs
      unfold namesB at hs
      rw [List.mem_map] at hs
      obtain ⟨t, ht, rfl⟩ := hs
      have h2 := matB_size t ht
      have h3 : wideB p = m := hp.2 _ (getD_mem ByteArray.empty (by omega))
      rw [← h3, ← h2]
      show (namesL _ t.data.toList).toArray.size = t.data.size
      rw [List.size_toArray]; unfold namesL; rw [List.length_map, Array.length_toList]
  unfold splitT at h ⊢
  split at h
  · rename_i hg
    rw [if_pos hg]
    have h1 : 1 ≤ p.length := by
      unfold givenB at hg
      rw [Bool.and_eq_true] at hg
      exact (planP_of hg.1).grid.h1
    split at h
    · rename_i hc
      rw [if_pos hc]
      exact key h1 h
    · rename_i hc
      rw [if_neg hc]
      split at h
      · rename_i hc2
        rw [if_pos hc2]
        exact key h1 h
      · cases h
  · cases h

set_option maxRecDepth 100000 in
set_option maxHeartbeats 4000000 in
theorem l91Cut_any (N B n m many : Nat) (po : Option Addr) (pc : Nat) (p : List ByteArray) (w : World) (hN : N ≤ 50000) (hn : n ≤ 10) (hm : m ≤ 10) (hk : many ≤ 100) (hp : Shp n m p) (h : RdAt N B w) (hc : ListAt B w po p) :
    Calls Try.prog 114 #[.pointer (some ⟨B, 0, none⟩), .slice po p.length pc, .int .i64 (many : Nat)] w
      fun e w' => ∃ ro rc l, Shp n m l ∧ e = .returned (.slice ro l.length rc) ∧ ListAt B w' ro l ∧ RdAt (N + 3 * many) B w' ∧ w.grownBy w' (some B) := by
  obtain ⟨p0, hp0⟩ : ∃ p0, p = p0 := ⟨_, rfl⟩
  go_enter Try.func114, Try.ntmps114
  go_wp2
  go_loopw [1, 7] (fun vp vt wr => ∃ (t : Nat) (ro : Option Addr) (rc : Nat) (l : List ByteArray), t ≤ many ∧ vt = .int .i64 t ∧ vp = .slice ro l.length rc ∧ Shp n m l ∧ ListAt B wr ro l ∧ RdAt (N + 3 * t) B wr ∧ w.grownBy wr (some B)) (fun _ vt _ => many - (intOf vt).toNat)
  case atStart => exact ⟨0, _, _, p, Nat.zero_le _, rfl, rfl, hp, hc, h, grownBy_refl _ _⟩
  case round =>
    clear hp h hc hp0
    obtain ⟨t, ro, rc, l, ht, rfl, rfl, hsh, hc, hr, hg⟩ := hrel
    have hll := hsh.1
    have hl1 : l.length ≤ 1048576 := by omega
    have hl2 : ∀ s ∈ l, s.size ≤ 1048576 := fun s hs => by have := hsh.2 s hs; omega
    by_cases hlt : t < many
    · have hlt' : decide ((t : Int) < (many : Int)) = true := by rw [decide_eq_true_eq]; omega
      have HR := Lib.hid hr; have HC := Lib.hid hc; have HG := Lib.hid hg; have HSH := Lib.hid hsh
      clear hr hc hg hsh hll
      go_wp2_with (first
        | (go_at_call 56; refine (l1Rooms_any _ _ _ _ hl1 hl2 HC.out.1).mono ?_; rintro e w1 ⟨rfl, rfl⟩)
        | (go_at_call 29; refine (pick_any (N + 3 * t + 2) B 3 _ (by omega) HR3.out).mono ?_; rintro e w4 ⟨v4, rfl, hv4, hr4, hg4⟩; have HR4 := Lib.hid hr4; have HG4 := Lib.hid (grownBy_trans HG3.out hg4); have HC4 := Lib.hid (HC3.out.grown hg4); clear hr4 hg4)
        | (go_at_call 29; refine (pick_any (N + 3 * t) B _ _ (by omega) HR.out).mono ?_; rintro e w2 ⟨v2, rfl, hv2, hr2, hg2⟩; have HR2 := Lib.hid hr2; have HG2 := Lib.hid (grownBy_trans HG.out hg2); have HC2 := Lib.hid (HC.out.grown hg2); clear hr2 hg2)
        | (go_at_call 137; refine (of_any (N + 3 * t + 1) B _ _ [⟨#[104]⟩, ⟨#[118]⟩] _ (by omega) (by decide) (by decide) (HR2.out.below (below_alloc _ _)) (CellsAt.alloc_lit _ [.string ⟨#[104]⟩, .string ⟨#[118]⟩] _) (fun a ha => by cases ha; have := HR2.out.lt; simp; omega)).mono ?_; rintro e w3 ⟨letter, _, rfl, hr3, hg3⟩; have HR3 := Lib.hid hr3; have HG3 := Lib.hid (grownBy_trans (grownBy_b HG2.out (below_alloc _ _)) hg3); have HC3 := Lib.hid ((HC2.out.below (below_alloc _ _)).grown hg3); clear hr3 hg3))
      refine (specSplit_any ro rc l (v2 : Nat) (1 + (v4 : Nat)) letter _ hl1 hl2 HC4.out.1).mono ?_
      rintro e w5 ⟨⟨qo, qc, rfl, hown5⟩, hb5⟩
      have HR5 := Lib.hid (HR4.out.below hb5)
      have HG5 := Lib.hid (grownBy_b HG4.out hb5)
      have HC5 := Lib.hid (HC4.out.below hb5)
      have HSS := Lib.hid (show doneO (splitT l (v2 : Nat) letter (1 + (v4 : Nat))) = true → Shp n m (namesO (splitT l (v2 : Nat) letter (1 + (v4 : Nat)))) from split_shape HSH.out)
      have HQ5 := Lib.hid (show ListAt B w5 qo (namesO (splitT l (v2 : Nat) letter (1 + (v4 : Nat)))) from ⟨owns_cells hown5, fun a ha => by
        have := (owns_lt hown5 a ha).1
        have := HR4.out.lt
        omega⟩)
      clear hown5 hb5
      generalize namesO (splitT l (v2 : Nat) letter (1 + (v4 : Nat))) = q at *
      generalize doneO (splitT l (v2 : Nat) letter (1 + (v4 : Nat))) = ok at *
      cases ok
      · go_wp2
        go_roundw
        case rel => exact ⟨t + 1, ro, rc, l, by omega, by go_num, rfl, HSH.out, HC5.out, HR5.out.mono (by omega), HG5.out⟩
        case measure => simp [intOf]; omega
      · go_wp2
        go_roundw
        case rel => exact ⟨t + 1, qo, qc, q, by omega, by go_num, rfl, HSS.out trivial, HQ5.out, HR5.out.mono (by omega), HG5.out⟩
        case measure => simp [intOf]; omega
    · obtain rfl : t = many := by omega
      have hlt' : decide ((t : Int) < (t : Int)) = false := by rw [decide_eq_false_iff_not]; omega
      go_wp2
      go_ret
      exact ⟨ro, rc, l, hsh, rfl, hc, hr, hg⟩

end Go.Proofs.Ytpgcpmfemcfoaaa

/-
  Draws of plans. (Walks.)
-/
namespace Go.Proofs.Ytpgcpmfemcfoaaa
open Go.RowKit

set_option maxRecDepth 100000 in
set_option maxHeartbeats 4000000 in
theorem l91Plan_any (N B n m : Nat) (w : World) (hN : N ≤ 40000) (hn : n ≤ 10) (hm : m ≤ 10) (h : RdAt N B w) :
    Calls Try.prog 87 #[.pointer (some ⟨B, 0, none⟩), .int .i64 (n : Nat), .int .i64 (m : Nat)] w
      fun e w' => ∃ ro rc l, Shp n m l ∧ e = .returned (.slice ro l.length rc) ∧ ListAt B w' ro l ∧ RdAt (N + 40) B w' ∧ w.grownBy w' (some B) := by
  have HR := Lib.hid h; clear h
  by_cases h33 : n = 3 ∧ m = 3
  · obtain ⟨rfl, rfl⟩ := h33
    go_enter Try.func87, Try.ntmps87
    go_wp2_with (first
      | (go_at_call 114; refine (l91Cut_any (N + 2) B 3 3 v4 _ _ [⟨#[97, 97, 98]⟩, ⟨#[99, 100, 98]⟩, ⟨#[99, 101, 101]⟩] _ (by omega) (by omega) (by omega) (by omega) ⟨rfl, by decide⟩ HR4.out (HL4.out)).mono ?_; rintro e w5 ⟨ro, rc, l, hsh, rfl, hl5, hr5, hg5⟩; have HR5 := Lib.hid (hr5.mono (M := N + 40) (by omega)); have HG5 := Lib.hid (grownBy_trans HG4.out hg5); clear hr5 hg5)
      | (go_at_call 114; refine (l91Cut_any (N + 2) B 3 3 v6 _ _ l6 _ (by omega) (by omega) (by omega) (by omega) HS6.out HR7.out HL7.out).mono ?_; rintro e w5 ⟨ro, rc, l, hsh, rfl, hl5, hr5, hg5⟩; have HR5 := Lib.hid (hr5.mono (M := N + 40) (by omega)); have HG5 := Lib.hid (grownBy_trans HG7.out hg5); clear hr5 hg5)
      | (go_at_call 29; refine (pick_any (N + 1) B _ _ (by omega) HR6.out).mono ?_; rintro e w7 ⟨v6, rfl, hv6, hr7, hg7⟩; have HR7 := Lib.hid hr7; have HL7 := Lib.hid (HL6.out.grown hg7); have HG7 := Lib.hid (grownBy_trans HG6.out hg7); clear hr7 hg7)
      | (go_at_call 29; refine (pick_any (N + 1) B _ _ (by omega) (HR2.out.below (below_alloc _ _))).mono ?_; rintro e w4 ⟨v4, rfl, hv4, hr4, hg4⟩; have HL4 := Lib.hid ((show ListAt B (w2.alloc (.cells (#[.string ⟨#[97, 97, 98]⟩, .string ⟨#[99, 100, 98]⟩, .string ⟨#[99, 101, 101]⟩]) 9)) (some ⟨w2.heap.size, 0, none⟩) [⟨#[97, 97, 98]⟩, ⟨#[99, 100, 98]⟩, ⟨#[99, 101, 101]⟩] from ⟨CellsAt.alloc_lit _ [.string ⟨#[97, 97, 98]⟩, .string ⟨#[99, 100, 98]⟩, .string ⟨#[99, 101, 101]⟩] _, fun a ha => by cases ha; have := HR2.out.lt; simp; omega⟩).grown hg4); have HR4 := Lib.hid hr4; have HG4 := Lib.hid (grownBy_trans (grownBy_b HG2.out (below_alloc _ _)) hg4); clear hr4 hg4)
      | (go_at_call 29; refine (pick_any N B 2 _ (by omega) HR.out).mono ?_; rintro e w2 ⟨v2, rfl, hv2, hr2, hg2⟩; have HR2 := Lib.hid hr2; have HG2 := Lib.hid hg2; clear hr2 hg2)
      | (go_at_call 115; refine (l91Empty_any 3 3 _ (by omega) (by omega)).mono ?_; rintro e w6 ⟨ro6, rc6, l6, hsh6, rfl, hown6, hb6⟩; have HR6 := Lib.hid (HR2.out.below hb6); have HL6 := Lib.hid (show ListAt B w6 ro6 l6 from ⟨owns_cells hown6, fun a ha => by have := (owns_lt hown6 a ha).1; have := HR2.out.lt; omega⟩); have HG6 := Lib.hid (grownBy_b HG2.out hb6); have HS6 := Lib.hid hsh6; clear hown6 hb6 hsh6))
    all_goals go_ret
    all_goals exact ⟨ro, rc, l, hsh, rfl, hl5, HR5.out, HG5.out⟩
  · by_cases h44 : n = 4 ∧ m = 4
    · obtain ⟨rfl, rfl⟩ := h44
      go_enter Try.func87, Try.ntmps87
      go_wp2_with (first
        | (go_at_call 114; refine (l91Cut_any (N + 2) B 4 4 v4 _ _ [⟨#[97, 97, 97, 98]⟩, ⟨#[99, 100, 100, 98]⟩, ⟨#[99, 100, 100, 98]⟩, ⟨#[99, 101, 101, 101]⟩] _ (by omega) (by omega) (by omega) (by omega) ⟨rfl, by decide⟩ HR4.out (HL4.out)).mono ?_; rintro e w5 ⟨ro, rc, l, hsh, rfl, hl5, hr5, hg5⟩; have HR5 := Lib.hid (hr5.mono (M := N + 40) (by omega)); have HG5 := Lib.hid (grownBy_trans HG4.out hg5); clear hr5 hg5)
        | (go_at_call 114; refine (l91Cut_any (N + 2) B 4 4 v6 _ _ l6 _ (by omega) (by omega) (by omega) (by omega) HS6.out HR7.out HL7.out).mono ?_; rintro e w5 ⟨ro, rc, l, hsh, rfl, hl5, hr5, hg5⟩; have HR5 := Lib.hid (hr5.mono (M := N + 40) (by omega)); have HG5 := Lib.hid (grownBy_trans HG7.out hg5); clear hr5 hg5)
        | (go_at_call 29; refine (pick_any (N + 1) B _ _ (by omega) HR6.out).mono ?_; rintro e w7 ⟨v6, rfl, hv6, hr7, hg7⟩; have HR7 := Lib.hid hr7; have HL7 := Lib.hid (HL6.out.grown hg7); have HG7 := Lib.hid (grownBy_trans HG6.out hg7); clear hr7 hg7)
        | (go_at_call 29; refine (pick_any (N + 1) B _ _ (by omega) (HR2.out.below (below_alloc _ _))).mono ?_; rintro e w4 ⟨v4, rfl, hv4, hr4, hg4⟩; have HL4 := Lib.hid ((show ListAt B (w2.alloc (.cells (#[.string ⟨#[97, 97, 97, 98]⟩, .string ⟨#[99, 100, 100, 98]⟩, .string ⟨#[99, 100, 100, 98]⟩, .string ⟨#[99, 101, 101, 101]⟩]) 9)) (some ⟨w2.heap.size, 0, none⟩) [⟨#[97, 97, 97, 98]⟩, ⟨#[99, 100, 100, 98]⟩, ⟨#[99, 100, 100, 98]⟩, ⟨#[99, 101, 101, 101]⟩] from ⟨CellsAt.alloc_lit _ [.string ⟨#[97, 97, 97, 98]⟩, .string ⟨#[99, 100, 100, 98]⟩, .string ⟨#[99, 100, 100, 98]⟩, .string ⟨#[99, 101, 101, 101]⟩] _, fun a ha => by cases ha; have := HR2.out.lt; simp; omega⟩).grown hg4); have HR4 := Lib.hid hr4; have HG4 := Lib.hid (grownBy_trans (grownBy_b HG2.out (below_alloc _ _)) hg4); clear hr4 hg4)
        | (go_at_call 29; refine (pick_any N B 2 _ (by omega) HR.out).mono ?_; rintro e w2 ⟨v2, rfl, hv2, hr2, hg2⟩; have HR2 := Lib.hid hr2; have HG2 := Lib.hid hg2; clear hr2 hg2)
        | (go_at_call 115; refine (l91Empty_any 4 4 _ (by omega) (by omega)).mono ?_; rintro e w6 ⟨ro6, rc6, l6, hsh6, rfl, hown6, hb6⟩; have HR6 := Lib.hid (HR2.out.below hb6); have HL6 := Lib.hid (show ListAt B w6 ro6 l6 from ⟨owns_cells hown6, fun a ha => by have := (owns_lt hown6 a ha).1; have := HR2.out.lt; omega⟩); have HG6 := Lib.hid (grownBy_b HG2.out hb6); have HS6 := Lib.hid hsh6; clear hown6 hb6 hsh6))
      all_goals go_ret
      all_goals exact ⟨ro, rc, l, hsh, rfl, hl5, HR5.out, HG5.out⟩
    · by_cases h3 : n = 3
      · subst h3
        have hd : ((m : Int) == 3) = false := by rw [beq_eq_false_iff_ne]; omega
        clear h33 h44
        go_enter Try.func87, Try.ntmps87
        go_wp2_with (first
          | (go_at_call 114; refine (l91Cut_any (N + 1) B _ _ v6 _ _ l6 _ (by omega) (by omega) (by omega) (by omega) HS6.out HR7.out HL7.out).mono ?_; rintro e w5 ⟨ro, rc, l, hsh, rfl, hl5, hr5, hg5⟩; have HR5 := Lib.hid (hr5.mono (M := N + 40) (by omega)); have HG5 := Lib.hid (grownBy_trans HG7.out hg5); clear hr5 hg5)
          | (go_at_call 29; refine (pick_any N B 9 _ (by omega) HR6.out).mono ?_; rintro e w7 ⟨v6, rfl, hv6, hr7, hg7⟩; have HR7 := Lib.hid hr7; have HL7 := Lib.hid (HL6.out.grown hg7); have HG7 := Lib.hid (grownBy_trans HG6.out hg7); clear hr7 hg7)
          | (go_at_call 115; refine (l91Empty_any _ _ _ (by omega) (by omega)).mono ?_; rintro e w6 ⟨ro6, rc6, l6, hsh6, rfl, hown6, hb6⟩; have HR6 := Lib.hid (HR.out.below hb6); have HL6 := Lib.hid (show ListAt B w6 ro6 l6 from ⟨owns_cells hown6, fun a ha => by have := (owns_lt hown6 a ha).1; have := HR.out.lt; omega⟩); have HG6 := Lib.hid (grownBy_b (grownBy_refl w (some B)) hb6); have HS6 := Lib.hid hsh6; clear hown6 hb6 hsh6))
        all_goals go_ret
        all_goals exact ⟨ro, rc, l, hsh, rfl, hl5, HR5.out, HG5.out⟩
      · by_cases h4 : n = 4
        · subst h4
          have hd : ((m : Int) == 4) = false := by rw [beq_eq_false_iff_ne]; omega
          clear h33 h44
          go_enter Try.func87, Try.ntmps87
          go_wp2_with (first
            | (go_at_call 114; refine (l91Cut_any (N + 1) B _ _ v6 _ _ l6 _ (by omega) (by omega) (by omega) (by omega) HS6.out HR7.out HL7.out).mono ?_; rintro e w5 ⟨ro, rc, l, hsh, rfl, hl5, hr5, hg5⟩; have HR5 := Lib.hid (hr5.mono (M := N + 40) (by omega)); have HG5 := Lib.hid (grownBy_trans HG7.out hg5); clear hr5 hg5)
            | (go_at_call 29; refine (pick_any N B 9 _ (by omega) HR6.out).mono ?_; rintro e w7 ⟨v6, rfl, hv6, hr7, hg7⟩; have HR7 := Lib.hid hr7; have HL7 := Lib.hid (HL6.out.grown hg7); have HG7 := Lib.hid (grownBy_trans HG6.out hg7); clear hr7 hg7)
            | (go_at_call 115; refine (l91Empty_any _ _ _ (by omega) (by omega)).mono ?_; rintro e w6 ⟨ro6, rc6, l6, hsh6, rfl, hown6, hb6⟩; have HR6 := Lib.hid (HR.out.below hb6); have HL6 := Lib.hid (show ListAt B w6 ro6 l6 from ⟨owns_cells hown6, fun a ha => by have := (owns_lt hown6 a ha).1; have := HR.out.lt; omega⟩); have HG6 := Lib.hid (grownBy_b (grownBy_refl w (some B)) hb6); have HS6 := Lib.hid hsh6; clear hown6 hb6 hsh6))
          all_goals go_ret
          all_goals exact ⟨ro, rc, l, hsh, rfl, hl5, HR5.out, HG5.out⟩
        · have hd : ((n : Int) == 3) = false := by rw [beq_eq_false_iff_ne]; omega
          have hd2 : ((n : Int) == 4) = false := by rw [beq_eq_false_iff_ne]; omega
          clear h33 h44 h3 h4
          go_enter Try.func87, Try.ntmps87
          go_wp2_with (first
            | (go_at_call 114; refine (l91Cut_any (N + 1) B _ _ v6 _ _ l6 _ (by omega) (by omega) (by omega) (by omega) HS6.out HR7.out HL7.out).mono ?_; rintro e w5 ⟨ro, rc, l, hsh, rfl, hl5, hr5, hg5⟩; have HR5 := Lib.hid (hr5.mono (M := N + 40) (by omega)); have HG5 := Lib.hid (grownBy_trans HG7.out hg5); clear hr5 hg5)
            | (go_at_call 29; refine (pick_any N B 9 _ (by omega) HR6.out).mono ?_; rintro e w7 ⟨v6, rfl, hv6, hr7, hg7⟩; have HR7 := Lib.hid hr7; have HL7 := Lib.hid (HL6.out.grown hg7); have HG7 := Lib.hid (grownBy_trans HG6.out hg7); clear hr7 hg7)
            | (go_at_call 115; refine (l91Empty_any _ _ _ (by omega) (by omega)).mono ?_; rintro e w6 ⟨ro6, rc6, l6, hsh6, rfl, hown6, hb6⟩; have HR6 := Lib.hid (HR.out.below hb6); have HL6 := Lib.hid (show ListAt B w6 ro6 l6 from ⟨owns_cells hown6, fun a ha => by have := (owns_lt hown6 a ha).1; have := HR.out.lt; omega⟩); have HG6 := Lib.hid (grownBy_b (grownBy_refl w (some B)) hb6); have HS6 := Lib.hid hsh6; clear hown6 hb6 hsh6))
          all_goals go_ret
          all_goals exact ⟨ro, rc, l, hsh, rfl, hl5, HR5.out, HG5.out⟩

end Go.Proofs.Ytpgcpmfemcfoaaa

/-
  Draws of plans, seldom none. (Walks.)
-/
namespace Go.Proofs.Ytpgcpmfemcfoaaa
open Go.RowKit

theorem open_row {w : World} {base : Nat} {e : TypeId} {ao : Option Addr} {m c n : Nat} {xs : List Value} (h : w.ownsRow base e 1 (.slice ao m c) n xs) (hn : 0 < n) :
    ∃ g cur, ao = some ⟨g, 0, none⟩ ∧ base ≤ g ∧ HeldB w g e cur ∧ ∀ j, j < n → cur[j]? = xs[j]? := by
  rcases h.2 with ⟨_, h0⟩ | ⟨g, cap, cur, he, hb, hg, _, _, hs, ht⟩
  · omega
  · simp only [Value.slice.injEq] at he
    obtain ⟨rfl, _, _⟩ := he
    refine ⟨g, cur, rfl, hb, hg, fun j hj => ?_⟩
    rw [← ht, List.getElem?_take, if_pos (by omega), Array.getElem?_toList]
theorem cells_set {w : World} {g : Nat} {e : TypeId} {cur : Array Value} {xs : List Value} {n i : Nat} (h : HeldB w g e cur) (hc : ∀ j, j < n → cur[j]? = xs[j]?) (hx : xs.length = n) (v : Value) :
    CellsAt (w.setCell ⟨g, i, none⟩ v) (some ⟨g, 0, none⟩) (xs.set i v) := fun j u hu => by
  refine ⟨g, 0, rfl, ?_⟩
  have hj : j < n := by
    have := (List.getElem?_eq_some_iff.1 hu).1
    rw [List.length_set] at this; omega
  rw [Nat.zero_add, (h.set i v).cell j, ← hu]
  have h1 := hc j hj
  have h2 : j < cur.size := by
    rcases Nat.lt_or_ge j cur.size with h3 | h3
    · exact h3
    · rw [Array.getElem?_eq_none h3] at h1
      rw [List.getElem?_eq_getElem (by omega)] at h1; cases h1
  rw [Array.getElem?_setIfInBounds, List.getElem?_set]
  split
  · rename_i h3; subst h3; rw [if_pos h2, if_pos (by omega)]
  · exact h1
theorem map_set_str {l : List ByteArray} (i : Nat) (s : ByteArray) : (l.map Value.string).set i (.string s) = (l.set i s).map Value.string := by rw [List.map_set]

/-- texts as draws make them: some, not many, none long -/
def Smp (l : List ByteArray) : Prop := 1 ≤ l.length ∧ l.length ≤ 8 ∧ ∀ s ∈ l, s.size ≤ 9
theorem smp_set {l : List ByteArray} {i : Nat} {s : ByteArray} (h : Smp l) (hs : s.size ≤ 9) : Smp (l.set i s) :=
  ⟨by rw [List.length_set]; exact h.1, by rw [List.length_set]; exact h.2.1, fun x hx => by
    rcases List.mem_or_eq_of_mem_set hx with h1 | h1
    · exact h.2.2 x h1
    · rw [h1]; exact hs⟩

theorem cells_flat {w : World} {b off : Nat} {l : List ByteArray} (h : CellsAt w (some ⟨b, off, none⟩) (l.map Value.string)) : ∀ j v, (l.map Value.string)[j]? = some v → w.cell? ⟨b, off + j, none⟩ = some v := fun j v hv => by
  obtain ⟨b', o', he, hc⟩ := h j v hv
  simp only [Option.some.injEq, Addr.mk.injEq, and_true] at he
  obtain ⟨rfl, rfl⟩ := he
  exact hc
theorem strs_one (l : List ByteArray) : ∀ v ∈ l.map Value.string, v.oneCell' = true := fun v hv => by
  rw [List.mem_map] at hv; obtain ⟨s, _, rfl⟩ := hv; rfl
theorem strs_cell {w : World} {g : Nat} {e : TypeId} {cur : Array Value} {l : List ByteArray} {n : Nat} (h : HeldB w g e cur) (hc : ∀ j, j < 0 + n → cur[j]? = (([] : List Value) ++ l.map Value.string)[j]?) (j : Nat) (hj : j < n) (hl : l.length = n := by rfl) :
    w.cell? ⟨g, j, none⟩ = some (.string (l.getD j ByteArray.empty)) := by
  rw [h.cell j, hc j (by omega)]
  simp [show j < l.length by omega]

theorem app_size (a b : ByteArray) : (a ++ b).size = a.size + b.size := ByteArray.size_append
theorem some_done {w w4 w5 : World} {M B g i lc : Nat} {t : TypeId} {cur : Array Value} {l : List ByteArray} {s : ByteArray} (hr : RdAt M B w4) (hg : w.grownBy w4 (some B)) (hb : Below w4.heap.size w4 w5) (hgb : w4.heap.size ≤ g) (hH : HeldB w5 g t cur)
    (hc : ∀ j, j < 0 + l.length → cur[j]? = (([] : List Value) ++ l.map Value.string)[j]?) (hl : Smp l) (hs : s.size ≤ 9) :
    ∃ ro rc l', Smp l' ∧ Ending.returned (.slice (some ⟨g, 0, none⟩) l.length lc) = .returned (.slice ro l'.length rc) ∧ ListAt B (w5.setCell ⟨g, i, none⟩ (.string s)) ro l' ∧ RdAt M B (w5.setCell ⟨g, i, none⟩ (.string s)) ∧ w.grownBy (w5.setCell ⟨g, i, none⟩ (.string s)) (some B) := by
  have hb2 : Below w4.heap.size w4 (w5.setCell ⟨g, i, none⟩ (.string s)) := hb.setCell hgb _
  refine ⟨some ⟨g, 0, none⟩, lc, l.set i s, smp_set hl hs, by rw [List.length_set], ⟨?_, fun a ha => ?_⟩, hr.below hb2, grownBy_b hg hb2⟩
  · rw [← map_set_str]
    exact cells_set (n := l.length) hH (fun j hj => by have := hc j (by omega); rwa [List.nil_append] at this) (by rw [List.length_map]) _
  · cases ha; have := hr.lt; simp; omega

set_option maxRecDepth 100000 in
set_option maxHeartbeats 4000000 in
theorem l91Some_any (N B rows cols : Nat) (w : World) (hN : N ≤ 30000) (hn : rows ≤ 7) (hm : cols ≤ 7) (h : RdAt N B w) :
    Calls Try.prog 58 #[.pointer (some ⟨B, 0, none⟩), .int .i64 (rows : Nat), .int .i64 (cols : Nat)] w
      fun e w' => ∃ ro rc l, Smp l ∧ e = .returned (.slice ro l.length rc) ∧ ListAt B w' ro l ∧ RdAt (N + 60) B w' ∧ w.grownBy w' (some B) := by
  obtain ⟨it, hti, htz, ht1, ht2⟩ := info_parts Try.infoText
  have HR := Lib.hid h; clear h
  go_enter Try.func58, Try.ntmps58
  go_wp2_with (first
    | (go_at_call 87; rw [E1.out, E2.out]; refine (l91Plan_any (N + 2) B (1 + v1) (1 + v2) _ (by omega) (by omega) (by omega) HR2.out).mono ?_; rintro e w3 ⟨ro, rc, l, hsh, rfl, hl3, hr3, hg3⟩; have HR3 := Lib.hid hr3; have HL3 := Lib.hid hl3; have HG3 := Lib.hid (grownBy_trans HG2.out hg3); have HS3 := Lib.hid hsh; clear hr3 hl3 hg3 hsh)
    | (go_at_call 29; refine (pick_any (N + 2 + 40) B 50 _ (by omega) HR3.out).mono ?_; rintro e w4 ⟨v4, rfl, hv4, hr4, hg4⟩; have HR4 := Lib.hid hr4; have HL4 := Lib.hid (HL3.out.grown hg4); have HG4 := Lib.hid (grownBy_trans HG3.out hg4); clear hr4 hg4; have h0l : 0 < l.length := (by have := HS3.out.1; omega); have hvl : v1 < l.length := (by have := HS3.out.1; omega); have hl8 : l.length ≤ 8 := (by have := HS3.out.1; omega); obtain ⟨b, off, rfl, _⟩ := HL4.out.1.str 0 h0l; have HCE := Lib.hid (cells_flat (HL4.out.1.below (below_alloc w4 (.cells #[] 9)))))
    | (at_builtin; (refine wpList_pushK _ rfl _ _ 23 rfl w4.heap.size 9 it (.string ⟨#[]⟩) 1 16 Try.underlying23 hti htz ht1 ht2 rfl (by decide) (some ⟨w4.heap.size, 0, none⟩) 0 0 _ rfl (World.ownsRow_made w4 #[] 0 (Nat.le_refl _) (Nat.zero_le _) rfl) (l.map Value.string) l.length b off rc rfl h0l (by simp) HCE.out (strs_one l) (by unfold maxLen; omega) (by omega) (by simp) ?_); intro lo lc w5 hown5 hg5 hnew5; obtain ⟨g, cur, rfl, hgb, hH, hcur⟩ := open_row hown5 (by omega); have HB5 := Lib.hid (below_of_grownBy' (below_alloc w4 _) hg5 (fun a ha => by cases ha; exact Nat.le_refl _)); have HCU := Lib.hid hcur; have HH := Lib.hid hH; have kv := strs_cell hH hcur v1 hvl; have k0 := strs_cell hH hcur 0 h0l; have fv := hH.frozen v1; have f0 := hH.frozen 0; have hz1 : (l[v1]'hvl).size = 1 + v2 := HS3.out.2 _ (List.getElem_mem hvl); have hz0 : (l[0]'h0l).size = 1 + v2 := HS3.out.2 _ (List.getElem_mem h0l); have hc1 : (9223372036854775807 < (l[v1]'hvl).size + 1) = False := eq_false (by omega); have hc0 : 1 ≤ (l[0]'h0l).size := (by omega); clear hown5 hg5 hnew5 hcur hH)
    | (go_at_call 29; refine (pick_any (N + 1) B _ _ (by omega) HR1.out).mono ?_; rintro e w2 ⟨v2, rfl, hv2, hr2, hg2⟩; have HR2 := Lib.hid hr2; have HG2 := Lib.hid (grownBy_trans HG1.out hg2); have E2 := Lib.hid (show (1 : Int) + (v2 : Nat) = ((1 + v2 : Nat) : Int) by omega); clear hr2 hg2)
    | (go_at_call 29; refine (pick_any N B _ _ (by omega) HR.out).mono ?_; rintro e w1 ⟨v1, rfl, hv1, hr1, hg1⟩; have HR1 := Lib.hid hr1; have HG1 := Lib.hid hg1; have E1 := Lib.hid (show (1 : Int) + (v1 : Nat) = ((1 + v1 : Nat) : Int) by omega); clear hr1 hg1))
  all_goals go_ret
  all_goals have HSM : Smp l := ⟨h0l, hl8, fun s hs => by have := HS3.out.2 s hs; omega⟩
  all_goals first
    | exact ⟨_, rc, l, HSM, rfl, HL4.out, HR4.out.mono (by omega), HG4.out⟩
    | exact some_done (HR4.out.mono (by omega)) HG4.out HB5.out hgb HH.out HCU.out HSM (by rw [app_size]; show _ + 1 ≤ 9; omega)
    | exact some_done (HR4.out.mono (by omega)) HG4.out HB5.out hgb HH.out HCU.out HSM (by rw [app_size]; show 1 + _ ≤ 9; rw [ByteArray.size_extract]; omega)

end Go.Proofs.Ytpgcpmfemcfoaaa

/-
  Draws of a plan. (Walks.)
-/
namespace Go.Proofs.Ytpgcpmfemcfoaaa
open Go.RowKit

theorem below_reader {B : Nat} {w w1 w2 : World} (hb : Below B w w1) (hB : B ≤ w1.heap.size) (hg : w1.grownBy w2 (some B)) : Below B w w2 :=
  hb.trans (below_of_grownBy hg hB (fun k hk => by cases hk; exact Nat.le_refl _))

/-- a drawn list, handed back -/
def Drawn (_base : Nat) (e : Ending) (w' : World) : Prop := ∃ ro rc l, Smp l ∧ e = .returned (.slice ro l.length rc) ∧ CellsAt w' ro (l.map Value.string)

end Go.Proofs.Ytpgcpmfemcfoaaa

/-
  Draws of a plan and a room. (Walks.)
-/
namespace Go.Proofs.Ytpgcpmfemcfoaaa
open Go.RowKit

theorem Smp.small {l : List ByteArray} (h : Smp l) : l.length ≤ 1048576 ∧ ∀ s ∈ l, s.size ≤ 1048576 := ⟨by have := h.2.1; omega, fun s hs => by have := h.2.2 s hs; omega⟩

end Go.Proofs.Ytpgcpmfemcfoaaa

/-
  Draws of two plans. (Walks.)
-/
namespace Go.Proofs.Ytpgcpmfemcfoaaa
open Go.RowKit

end Go.Proofs.Ytpgcpmfemcfoaaa
