
/-
  Tables of sheets: scores asked and tried. (Walks.)
-/
import Derived.Test.YtfemfmkgdgcemaaShC
import Derived.Test.YtfemfmkgdgcemaaShB
import Derived.Test.YtfemfmkgdgcemaaRnd
import Derived.BigRegionIn
namespace Go.Proofs.Ytfemfmkgdgcemaa
open Go.RowKit Go.Shelf

attribute [local go_sem] Oper.semAt_some

theorem sh_held_own {β : Type} (B : Nat) (t : TypeId) (f : β → Array Value) : Own (fun s W => HeldB W B t (f s)) := fun s X Y row hs hg hrow =>
  hs.kept hg (fun e' => by obtain ⟨o, ho, hc⟩ := hrow B e'.symm; rw [show X.heap[B]? = _ from hs] at ho; cases ho; cases hc)
theorem sh_keeps {W W' : World} (hb : Below W.heap.size W W') : KeepsOthers W W' := ⟨hb.size, fun k _ hk _ => (hb.block k (Array.getElem?_eq_some_iff.1 hk).1).trans hk⟩
/-- the score of both parts of a cut -/
def prV (T : Nat → Nat → Int) (x : Pr) : Int := T x.a x.b + T x.c x.d
/-- the best score so far -/
def bestP (op : Int → Int → Int) (T : Nat → Nat → Int) (u : Int) (pre : List Pr) : Int := (pre.map (prV T)).foldl op u
theorem bestP_snoc (op : Int → Int → Int) (T : Nat → Nat → Int) (u : Int) (pre : List Pr) (x : Pr) : bestP op T u (pre ++ [x]) = op (bestP op T u pre) (prV T x) := by
  unfold bestP; rw [List.map_append, List.foldl_append]; rfl
theorem bestP_cuts {op : Int → Int → Int} {T : Nat → Nat → Int} {u : Int} {w h : Nat} {pre : List Pr} (hp : pre.map Pr.pair = cutsL w h) : bestP op T u pre = ((cutsL w h).map (bothF T)).foldl op u := by
  unfold bestP; rw [← hp, List.map_map]; rfl
/-- scores that are not too great -/
def FewT (T : Nat → Nat → Int) : Prop := ∀ a b, a ≤ 12 → b ≤ 12 → -400000 ≤ T a b ∧ T a b ≤ 400000

set_option maxRecDepth 100000 in
set_option maxHeartbeats 2000000 in
theorem ofGain_any (B w h : Nat) (T : Nat → Nat → Int) (hw : w ≤ 12) (hh : h ≤ 12) (W : World) (hB : HeldB W B 72 (tbC T)) :
    Calls Try.prog 55 #[.pointer (some ⟨B, 0, none⟩), .agg #[.int .i64 (w : Int), .int .i64 (h : Int)]] W fun e W' =>
      e = .returned (.int .i64 (T w h)) ∧ Below W.heap.size W W' := by
  have hc := (hB.alloc (.cells #[.int .i64 (w : Int), .int .i64 (h : Int)] 36)).cell (h * 13 + w)
  rw [tbC_at T w h (by omega) (by omega)] at hc
  have k := HeldB.new W 36 #[.int .i64 (w : Int), .int .i64 (h : Int)]
  have hb : Below W.heap.size W (W.alloc (.cells #[.int .i64 (w : Int), .int .i64 (h : Int)] 36)) := below_alloc W _
  generalize T w h = x at *
  go_enter Try.func55, Try.ntmps55
  go_wp2
  have k0 := k.cell 0
  have k1 := k.cell 1
  clear k
  generalize W.alloc (.cells #[.int .i64 (w : Int), .int .i64 (h : Int)] 36) = w2 at *
  go_quiet (fail)
  go_wp2
  go_ret
  exact ⟨rfl, hb.trans (below_drewN _ _ _)⟩

theorem methodGain (k : Nat) (hk : k ≠ 0) (x : Int) (w : World) : (method k 57 (.int .i64 x) "loop.example/floorrooms/impl.isBetter").run Try.prog w = .ok (75, .int .i64 x) w := by
  obtain ⟨k, rfl⟩ : ∃ m, k = m + 1 := ⟨k - 1, by omega⟩
  kernel_rfl
set_option maxRecDepth 100000 in
theorem isBetterGain_any (a b : Int) (w : World) : Calls Try.prog 75 #[.int .i64 a, .int .i64 b] w fun e w' => e = .returned (.bool (decide (b < a))) ∧ w' = w := by
  go_enter Try.func75, Try.ntmps75
  go_wp2
  go_ret
  exact ⟨rfl, rfl⟩

set_option maxRecDepth 100000 in
set_option maxHeartbeats 8000000 in
theorem tryGain_in (n : Nat) (hn : 6 ≤ n) (B w h : Nat) (T : Nat → Nat → Int) (u : Int) (hw : w ≤ 12) (hh : h ≤ 12) (hT : FewT T) (W : World) (hB : HeldB W B 72 (tbC T)) :
    CallsIn Fence.wide n Try.prog 54 #[.pointer (some ⟨B, 0, none⟩), .agg #[.int .i64 (w : Int), .int .i64 (h : Int)], .int .i64 u] W fun e W' =>
      (∃ v, e = .returned v) ∧ HeldB W' B 72 (tbC (updT T w h (((cutsL w h).map (bothF T)).foldl opG u))) ∧ W.grownBy W' (some B) := by
  have hF : ∀ k, Fence.wide.fn k := fun _ => trivial
  have hn1 : 1 ≤ n := by omega
  obtain ⟨bp, hbp⟩ : ∃ v, ((cutsL w h).map (bothF T)).foldl opG u = v := ⟨_, rfl⟩
  rw [hbp]
  have HBP := Lib.hid hbp
  clear hbp
  have HCU := Lib.hid (fun (W : World) => shCuts_any (w : Int) (h : Int) W)
  have HST := Lib.hid (fun (C : Nat) (W : World) (hp : HeldB W C 36 #[.int .i64 (w : Int), .int .i64 (h : Int)]) => cuts_stops (n - 1) (by omega) C w h hw hh W hp)
  have HOF := Lib.hid (fun (a b : Nat) (ha : a ≤ 12) (hb : b ≤ 12) (W : World) (hB : HeldB W B 72 (tbC T)) => ofGain_any B a b T ha hb W hB)
  refine callsIn_of_wp_marks Try.func54 rfl trivial ?_ rfl
  simp only [Try.ntmps54, List.size_toArray, List.length_cons, List.length_nil, Nat.reduceAdd, Nat.reduceSub, Array.replicate_succ, Array.replicate_zero, List.push_toArray, List.append_toArray, List.nil_append, List.cons_append]
  have W3 : HeldB (((W.alloc (.cells #[.pointer (some ⟨B, 0, none⟩)] 79)).alloc (.cells #[.int .i64 (w : Int), .int .i64 (h : Int)] 36)).alloc (.cells #[.int .i64 u] 57)) B 72 (tbC T) := ((hB.alloc _).alloc _).alloc _
  have W0' : HeldB (((W.alloc (.cells #[.pointer (some ⟨B, 0, none⟩)] 79)).alloc (.cells #[.int .i64 (w : Int), .int .i64 (h : Int)] 36)).alloc (.cells #[.int .i64 u] 57)) W.heap.size 79 #[.pointer (some ⟨B, 0, none⟩)] := ((HeldB.new W _ _).alloc _).alloc _
  have W1' : HeldB (((W.alloc (.cells #[.pointer (some ⟨B, 0, none⟩)] 79)).alloc (.cells #[.int .i64 (w : Int), .int .i64 (h : Int)] 36)).alloc (.cells #[.int .i64 u] 57)) (W.heap.size + 1) 36 #[.int .i64 (w : Int), .int .i64 (h : Int)] := (held_new1 W _ _ _).alloc _
  have W2' : HeldB (((W.alloc (.cells #[.pointer (some ⟨B, 0, none⟩)] 79)).alloc (.cells #[.int .i64 (w : Int), .int .i64 (h : Int)] 36)).alloc (.cells #[.int .i64 u] 57)) (W.heap.size + 1 + 1) 57 #[.int .i64 u] := held_new2 W _ _ _ _
  have hB0 : Below W.heap.size W (((W.alloc (.cells #[.pointer (some ⟨B, 0, none⟩)] 79)).alloc (.cells #[.int .i64 (w : Int), .int .i64 (h : Int)] 36)).alloc (.cells #[.int .i64 u] 57)) := (((Below.refl _ W).alloc (Nat.le_refl _) _).alloc (by simp) _).alloc (by simp; omega) _
  have hs0 : (((W.alloc (.cells #[.pointer (some ⟨B, 0, none⟩)] 79)).alloc (.cells #[.int .i64 (w : Int), .int .i64 (h : Int)] 36)).alloc (.cells #[.int .i64 u] 57)).heap.size = W.heap.size + 3 := by simp
  have W3 : HeldB (((W.alloc (.cells #[.pointer (some ⟨B, 0, none⟩)] 79)).alloc (.cells #[.int .i64 (w : Int), .int .i64 (h : Int)] 36)).alloc (.cells #[.int .i64 u] 57)) B 72 (tbC T) := ((hB.alloc _).alloc _).alloc _
  have W0' : HeldB (((W.alloc (.cells #[.pointer (some ⟨B, 0, none⟩)] 79)).alloc (.cells #[.int .i64 (w : Int), .int .i64 (h : Int)] 36)).alloc (.cells #[.int .i64 u] 57)) W.heap.size 79 #[.pointer (some ⟨B, 0, none⟩)] := ((HeldB.new W _ _).alloc _).alloc _
  have W1' : HeldB (((W.alloc (.cells #[.pointer (some ⟨B, 0, none⟩)] 79)).alloc (.cells #[.int .i64 (w : Int), .int .i64 (h : Int)] 36)).alloc (.cells #[.int .i64 u] 57)) (W.heap.size + 1) 36 #[.int .i64 (w : Int), .int .i64 (h : Int)] := (held_new1 W _ _ _).alloc _
  have W2' : HeldB (((W.alloc (.cells #[.pointer (some ⟨B, 0, none⟩)] 79)).alloc (.cells #[.int .i64 (w : Int), .int .i64 (h : Int)] 36)).alloc (.cells #[.int .i64 u] 57)) (W.heap.size + 1 + 1) 57 #[.int .i64 u] := held_new2 W _ _ _ _
  have hB0 : Below W.heap.size W (((W.alloc (.cells #[.pointer (some ⟨B, 0, none⟩)] 79)).alloc (.cells #[.int .i64 (w : Int), .int .i64 (h : Int)] 36)).alloc (.cells #[.int .i64 u] 57)) := (((Below.refl _ W).alloc (Nat.le_refl _) _).alloc (by simp) _).alloc (by simp; omega) _
  have hs0 : (((W.alloc (.cells #[.pointer (some ⟨B, 0, none⟩)] 79)).alloc (.cells #[.int .i64 (w : Int), .int .i64 (h : Int)] 36)).alloc (.cells #[.int .i64 u] 57)).heap.size = W.heap.size + 3 := by simp
  have W3 : HeldB (((W.alloc (.cells #[.pointer (some ⟨B, 0, none⟩)] 79)).alloc (.cells #[.int .i64 (w : Int), .int .i64 (h : Int)] 36)).alloc (.cells #[.int .i64 u] 57)) B 72 (tbC T) := ((hB.alloc _).alloc _).alloc _
  have W0' : HeldB (((W.alloc (.cells #[.pointer (some ⟨B, 0, none⟩)] 79)).alloc (.cells #[.int .i64 (w : Int), .int .i64 (h : Int)] 36)).alloc (.cells #[.int .i64 u] 57)) W.heap.size 79 #[.pointer (some ⟨B, 0, none⟩)] := ((HeldB.new W _ _).alloc _).alloc _
  have W1' : HeldB (((W.alloc (.cells #[.pointer (some ⟨B, 0, none⟩)] 79)).alloc (.cells #[.int .i64 (w : Int), .int .i64 (h : Int)] 36)).alloc (.cells #[.int .i64 u] 57)) (W.heap.size + 1) 36 #[.int .i64 (w : Int), .int .i64 (h : Int)] := (held_new1 W _ _ _).alloc _
  have W2' : HeldB (((W.alloc (.cells #[.pointer (some ⟨B, 0, none⟩)] 79)).alloc (.cells #[.int .i64 (w : Int), .int .i64 (h : Int)] 36)).alloc (.cells #[.int .i64 u] 57)) (W.heap.size + 1 + 1) 57 #[.int .i64 u] := held_new2 W _ _ _ _
  have hB0 : Below W.heap.size W (((W.alloc (.cells #[.pointer (some ⟨B, 0, none⟩)] 79)).alloc (.cells #[.int .i64 (w : Int), .int .i64 (h : Int)] 36)).alloc (.cells #[.int .i64 u] 57)) := (((Below.refl _ W).alloc (Nat.le_refl _) _).alloc (by simp) _).alloc (by simp; omega) _
  have hs0 : (((W.alloc (.cells #[.pointer (some ⟨B, 0, none⟩)] 79)).alloc (.cells #[.int .i64 (w : Int), .int .i64 (h : Int)] 36)).alloc (.cells #[.int .i64 u] 57)).heap.size = W.heap.size + 3 := by simp
  have W3 : HeldB (((W.alloc (.cells #[.pointer (some ⟨B, 0, none⟩)] 79)).alloc (.cells #[.int .i64 (w : Int), .int .i64 (h : Int)] 36)).alloc (.cells #[.int .i64 u] 57)) B 72 (tbC T) := ((hB.alloc _).alloc _).alloc _
  have W0' : HeldB (((W.alloc (.cells #[.pointer (some ⟨B, 0, none⟩)] 79)).alloc (.cells #[.int .i64 (w : Int), .int .i64 (h : Int)] 36)).alloc (.cells #[.int .i64 u] 57)) W.heap.size 79 #[.pointer (some ⟨B, 0, none⟩)] := ((HeldB.new W _ _).alloc _).alloc _
  have W1' : HeldB (((W.alloc (.cells #[.pointer (some ⟨B, 0, none⟩)] 79)).alloc (.cells #[.int .i64 (w : Int), .int .i64 (h : Int)] 36)).alloc (.cells #[.int .i64 u] 57)) (W.heap.size + 1) 36 #[.int .i64 (w : Int), .int .i64 (h : Int)] := (held_new1 W _ _ _).alloc _
  have W2' : HeldB (((W.alloc (.cells #[.pointer (some ⟨B, 0, none⟩)] 79)).alloc (.cells #[.int .i64 (w : Int), .int .i64 (h : Int)] 36)).alloc (.cells #[.int .i64 u] 57)) (W.heap.size + 1 + 1) 57 #[.int .i64 u] := held_new2 W _ _ _ _
  have hB0 : Below W.heap.size W (((W.alloc (.cells #[.pointer (some ⟨B, 0, none⟩)] 79)).alloc (.cells #[.int .i64 (w : Int), .int .i64 (h : Int)] 36)).alloc (.cells #[.int .i64 u] 57)) := (((Below.refl _ W).alloc (Nat.le_refl _) _).alloc (by simp) _).alloc (by simp; omega) _
  have hs0 : (((W.alloc (.cells #[.pointer (some ⟨B, 0, none⟩)] 79)).alloc (.cells #[.int .i64 (w : Int), .int .i64 (h : Int)] 36)).alloc (.cells #[.int .i64 u] 57)).heap.size = W.heap.size + 3 := by simp
  have W3 : HeldB (((W.alloc (.cells #[.pointer (some ⟨B, 0, none⟩)] 79)).alloc (.cells #[.int .i64 (w : Int), .int .i64 (h : Int)] 36)).alloc (.cells #[.int .i64 u] 57)) B 72 (tbC T) := ((hB.alloc _).alloc _).alloc _
  have W0' : HeldB (((W.alloc (.cells #[.pointer (some ⟨B, 0, none⟩)] 79)).alloc (.cells #[.int .i64 (w : Int), .int .i64 (h : Int)] 36)).alloc (.cells #[.int .i64 u] 57)) W.heap.size 79 #[.pointer (some ⟨B, 0, none⟩)] := ((HeldB.new W _ _).alloc _).alloc _
  have W1' : HeldB (((W.alloc (.cells #[.pointer (some ⟨B, 0, none⟩)] 79)).alloc (.cells #[.int .i64 (w : Int), .int .i64 (h : Int)] 36)).alloc (.cells #[.int .i64 u] 57)) (W.heap.size + 1) 36 #[.int .i64 (w : Int), .int .i64 (h : Int)] := (held_new1 W _ _ _).alloc _
  have W2' : HeldB (((W.alloc (.cells #[.pointer (some ⟨B, 0, none⟩)] 79)).alloc (.cells #[.int .i64 (w : Int), .int .i64 (h : Int)] 36)).alloc (.cells #[.int .i64 u] 57)) (W.heap.size + 1 + 1) 57 #[.int .i64 u] := held_new2 W _ _ _ _
  have hB0 : Below W.heap.size W (((W.alloc (.cells #[.pointer (some ⟨B, 0, none⟩)] 79)).alloc (.cells #[.int .i64 (w : Int), .int .i64 (h : Int)] 36)).alloc (.cells #[.int .i64 u] 57)) := (((Below.refl _ W).alloc (Nat.le_refl _) _).alloc (by simp) _).alloc (by simp; omega) _
  have hs0 : (((W.alloc (.cells #[.pointer (some ⟨B, 0, none⟩)] 79)).alloc (.cells #[.int .i64 (w : Int), .int .i64 (h : Int)] 36)).alloc (.cells #[.int .i64 u] 57)).heap.size = W.heap.size + 3 := by simp
  have W3 : HeldB (((W.alloc (.cells #[.pointer (some ⟨B, 0, none⟩)] 79)).alloc (.cells #[.int .i64 (w : Int), .int .i64 (h : Int)] 36)).alloc (.cells #[.int .i64 u] 57)) B 72 (tbC T) := ((hB.alloc _).alloc _).alloc _
  have W0' : HeldB (((W.alloc (.cells #[.pointer (some ⟨B, 0, none⟩)] 79)).alloc (.cells #[.int .i64 (w : Int), .int .i64 (h : Int)] 36)).alloc (.cells #[.int .i64 u] 57)) W.heap.size 79 #[.pointer (some ⟨B, 0, none⟩)] := ((HeldB.new W _ _).alloc _).alloc _
  have W1' : HeldB (((W.alloc (.cells #[.pointer (some ⟨B, 0, none⟩)] 79)).alloc (.cells #[.int .i64 (w : Int), .int .i64 (h : Int)] 36)).alloc (.cells #[.int .i64 u] 57)) (W.heap.size + 1) 36 #[.int .i64 (w : Int), .int .i64 (h : Int)] := (held_new1 W _ _ _).alloc _
  have W2' : HeldB (((W.alloc (.cells #[.pointer (some ⟨B, 0, none⟩)] 79)).alloc (.cells #[.int .i64 (w : Int), .int .i64 (h : Int)] 36)).alloc (.cells #[.int .i64 u] 57)) (W.heap.size + 1 + 1) 57 #[.int .i64 u] := held_new2 W _ _ _ _
  have hB0 : Below W.heap.size W (((W.alloc (.cells #[.pointer (some ⟨B, 0, none⟩)] 79)).alloc (.cells #[.int .i64 (w : Int), .int .i64 (h : Int)] 36)).alloc (.cells #[.int .i64 u] 57)) := (((Below.refl _ W).alloc (Nat.le_refl _) _).alloc (by simp) _).alloc (by simp; omega) _
  have hs0 : (((W.alloc (.cells #[.pointer (some ⟨B, 0, none⟩)] 79)).alloc (.cells #[.int .i64 (w : Int), .int .i64 (h : Int)] 36)).alloc (.cells #[.int .i64 u] 57)).heap.size = W.heap.size + 3 := by simp
  have W3 : HeldB (((W.alloc (.cells #[.pointer (some ⟨B, 0, none⟩)] 79)).alloc (.cells #[.int .i64 (w : Int), .int .i64 (h : Int)] 36)).alloc (.cells #[.int .i64 u] 57)) B 72 (tbC T) := ((hB.alloc _).alloc _).alloc _
  have W0' : HeldB (((W.alloc (.cells #[.pointer (some ⟨B, 0, none⟩)] 79)).alloc (.cells #[.int .i64 (w : Int), .int .i64 (h : Int)] 36)).alloc (.cells #[.int .i64 u] 57)) W.heap.size 79 #[.pointer (some ⟨B, 0, none⟩)] := ((HeldB.new W _ _).alloc _).alloc _
  have W1' : HeldB (((W.alloc (.cells #[.pointer (some ⟨B, 0, none⟩)] 79)).alloc (.cells #[.int .i64 (w : Int), .int .i64 (h : Int)] 36)).alloc (.cells #[.int .i64 u] 57)) (W.heap.size + 1) 36 #[.int .i64 (w : Int), .int .i64 (h : Int)] := (held_new1 W _ _ _).alloc _
  have W2' : HeldB (((W.alloc (.cells #[.pointer (some ⟨B, 0, none⟩)] 79)).alloc (.cells #[.int .i64 (w : Int), .int .i64 (h : Int)] 36)).alloc (.cells #[.int .i64 u] 57)) (W.heap.size + 1 + 1) 57 #[.int .i64 u] := held_new2 W _ _ _ _
  have hB0 : Below W.heap.size W (((W.alloc (.cells #[.pointer (some ⟨B, 0, none⟩)] 79)).alloc (.cells #[.int .i64 (w : Int), .int .i64 (h : Int)] 36)).alloc (.cells #[.int .i64 u] 57)) := (((Below.refl _ W).alloc (Nat.le_refl _) _).alloc (by simp) _).alloc (by simp; omega) _
  have hs0 : (((W.alloc (.cells #[.pointer (some ⟨B, 0, none⟩)] 79)).alloc (.cells #[.int .i64 (w : Int), .int .i64 (h : Int)] 36)).alloc (.cells #[.int .i64 u] 57)).heap.size = W.heap.size + 3 := by simp
  have W3 : HeldB (((W.alloc (.cells #[.pointer (some ⟨B, 0, none⟩)] 79)).alloc (.cells #[.int .i64 (w : Int), .int .i64 (h : Int)] 36)).alloc (.cells #[.int .i64 u] 57)) B 72 (tbC T) := ((hB.alloc _).alloc _).alloc _
  have W0' : HeldB (((W.alloc (.cells #[.pointer (some ⟨B, 0, none⟩)] 79)).alloc (.cells #[.int .i64 (w : Int), .int .i64 (h : Int)] 36)).alloc (.cells #[.int .i64 u] 57)) W.heap.size 79 #[.pointer (some ⟨B, 0, none⟩)] := ((HeldB.new W _ _).alloc _).alloc _
  have W1' : HeldB (((W.alloc (.cells #[.pointer (some ⟨B, 0, none⟩)] 79)).alloc (.cells #[.int .i64 (w : Int), .int .i64 (h : Int)] 36)).alloc (.cells #[.int .i64 u] 57)) (W.heap.size + 1) 36 #[.int .i64 (w : Int), .int .i64 (h : Int)] := (held_new1 W _ _ _).alloc _
  have W2' : HeldB (((W.alloc (.cells #[.pointer (some ⟨B, 0, none⟩)] 79)).alloc (.cells #[.int .i64 (w : Int), .int .i64 (h : Int)] 36)).alloc (.cells #[.int .i64 u] 57)) (W.heap.size + 1 + 1) 57 #[.int .i64 u] := held_new2 W _ _ _ _
  have hB0 : Below W.heap.size W (((W.alloc (.cells #[.pointer (some ⟨B, 0, none⟩)] 79)).alloc (.cells #[.int .i64 (w : Int), .int .i64 (h : Int)] 36)).alloc (.cells #[.int .i64 u] 57)) := (((Below.refl _ W).alloc (Nat.le_refl _) _).alloc (by simp) _).alloc (by simp; omega) _
  have hs0 : (((W.alloc (.cells #[.pointer (some ⟨B, 0, none⟩)] 79)).alloc (.cells #[.int .i64 (w : Int), .int .i64 (h : Int)] 36)).alloc (.cells #[.int .i64 u] 57)).heap.size = W.heap.size + 3 := by simp
  have W3 : HeldB (((W.alloc (.cells #[.pointer (some ⟨B, 0, none⟩)] 79)).alloc (.cells #[.int .i64 (w : Int), .int .i64 (h : Int)] 36)).alloc (.cells #[.int .i64 u] 57)) B 72 (tbC T) := ((hB.alloc _).alloc _).alloc _
  have W0' : HeldB (((W.alloc (.cells #[.pointer (some ⟨B, 0, none⟩)] 79)).alloc (.cells #[.int .i64 (w : Int), .int .i64 (h : Int)] 36)).alloc (.cells #[.int .i64 u] 57)) W.heap.size 79 #[.pointer (some ⟨B, 0, none⟩)] := ((HeldB.new W _ _).alloc _).alloc _
  have W1' : HeldB (((W.alloc (.cells #[.pointer (some ⟨B, 0, none⟩)] 79)).alloc (.cells #[.int .i64 (w : Int), .int .i64 (h : Int)] 36)).alloc (.cells #[.int .i64 u] 57)) (W.heap.size + 1) 36 #[.int .i64 (w : Int), .int .i64 (h : Int)] := (held_new1 W _ _ _).alloc _
  have W2' : HeldB (((W.alloc (.cells #[.pointer (some ⟨B, 0, none⟩)] 79)).alloc (.cells #[.int .i64 (w : Int), .int .i64 (h : Int)] 36)).alloc (.cells #[.int .i64 u] 57)) (W.heap.size + 1 + 1) 57 #[.int .i64 u] := held_new2 W _ _ _ _
  have hB0 : Below W.heap.size W (((W.alloc (.cells #[.pointer (some ⟨B, 0, none⟩)] 79)).alloc (.cells #[.int .i64 (w : Int), .int .i64 (h : Int)] 36)).alloc (.cells #[.int .i64 u] 57)) := (((Below.refl _ W).alloc (Nat.le_refl _) _).alloc (by simp) _).alloc (by simp; omega) _
  have hs0 : (((W.alloc (.cells #[.pointer (some ⟨B, 0, none⟩)] 79)).alloc (.cells #[.int .i64 (w : Int), .int .i64 (h : Int)] 36)).alloc (.cells #[.int .i64 u] 57)).heap.size = W.heap.size + 3 := by simp
  gi_wp2_with (gi_at_call 58; refine (callsIn_wide.2 (HCU.out _)).mono ?_; rintro e W0 ⟨C, rfl, hCC, bN, hb1⟩)
  have bT := W3.below hb1
  have b0 := W0'.below hb1
  have b1 := W1'.below hb1
  have b2 := W2'.below hb1
  have hB0 := below_step hB0 hB0.size hb1
  rw [hs0] at hCC
  have hCW := bN.lt
  have hBl := hB.lt
  clear hb1 hs0 W3 W0' W1' W2'
  refine wpIn_rangeFunc_ownH rfl hn1 (gf := 59) (lb := #[.pointer (some ⟨C, 0, none⟩)]) rfl trivial (enters_of Try.func59 (by kernel_rfl) rfl)
    (HST.out C W0 bN) (fun {A B' D} (h1 : B'.heap[C]? = A.heap[C]?) (h2 : D.heap[C]? = B'.heap[C]?) => h2.trans h1)
    (fun W l o o' hl _ _ _ => World.putObj_heap_other (by omega)) (Below.refl _ _) (fun _ => rfl)
    (fun pre W1 => ((HeldB W1 B 72 (tbC T) ∧ HeldB W1 W.heap.size 79 #[.pointer (some ⟨B, 0, none⟩)]) ∧ (HeldB W1 (W.heap.size + 1) 36 #[.int .i64 (w : Int), .int .i64 (h : Int)] ∧ HeldB W1 (W.heap.size + 1 + 1) 57 #[.int .i64 (bestP opG T u pre)])) ∧ (HeldB W1 C 36 #[.int .i64 (w : Int), .int .i64 (h : Int)] ∧ Below W.heap.size W W1))
    (fun _ _ _ => False)
    (OwnFrom.and (OwnFrom.and (OwnFrom.and (Own.from (sh_held_own _ _ (fun _ => tbC T)) _) (Own.from (sh_held_own _ _ (fun _ => #[.pointer (some ⟨B, 0, none⟩)])) _)) (OwnFrom.and (Own.from (sh_held_own _ _ (fun _ => #[.int .i64 (w : Int), .int .i64 (h : Int)])) _) (Own.from (sh_held_own _ _ (fun pre => #[.int .i64 (bestP opG T u pre)])) _))) (OwnFrom.and (Own.from (sh_held_own _ _ (fun _ => #[.int .i64 (w : Int), .int .i64 (h : Int)])) _) (ownFrom_below (Nat.le_refl _) (by omega))))
    (fun c => ownFrom_pure _ (fun _ => False))
    ⟨⟨⟨bT, b0⟩, b1, b2⟩, bN, hB0⟩
    (fun x a' W1 => ∃ G1 G2, C < G1 ∧ C < G2 ∧ HeldB W1 G1 36 #[.int .i64 (x.a : Int), .int .i64 (x.b : Int)] ∧ HeldB W1 G2 36 #[.int .i64 (x.c : Int), .int .i64 (x.d : Int)] ∧ a' = { tmps := #[.pointer (some ⟨B, 0, none⟩), .agg #[.int .i64 (w : Int), .int .i64 (h : Int)], .int .i64 u, .pointer (some ⟨W.heap.size, 0, none⟩), .pointer (some ⟨W.heap.size + 1, 0, none⟩), undef, .pointer (some ⟨W.heap.size + 1 + 1, 0, none⟩), .pointer (some ⟨G1, 0, none⟩), .pointer (some ⟨G2, 0, none⟩), undef, .int .i64 u, .agg #[.int .i64 (w : Int), .int .i64 (h : Int)], .func (.func 59) #[] #[.pointer (some ⟨C, 0, none⟩)], .agg #[.int .i64 (x.a : Int), .int .i64 (x.b : Int)], .agg #[.int .i64 (x.c : Int), .int .i64 (x.d : Int)], undef, undef, undef, undef, undef, undef, undef, undef, undef, undef, undef, undef, undef, undef, undef, undef, undef, undef, undef, undef, undef, undef], defers := [] })
    (fun x a' _ X Y row hs hg hr => by obtain ⟨G1, G2, h1, h2, h3, h4, h5⟩ := hs; exact ⟨G1, G2, h1, h2, sh_held_own G1 36 (fun (_ : Unit) => #[.int .i64 (x.a : Int), .int .i64 (x.b : Int)]) () X Y row h3 hg (fun r e => (hr r e).2), sh_held_own G2 36 (fun (_ : Unit) => #[.int .i64 (x.c : Int), .int .i64 (x.d : Int)]) () X Y row h4 hg (fun r e => (hr r e).2), h5⟩)
    ?assign ?body ?done ?stop
  case assign =>
    rintro l pre x W1 K ⟨⟨⟨bT1, b01⟩, b11, b21⟩, bN1, hB1⟩ hK
    simp only [encP]
    gi_wp2
    exact hK _ _ (((KeepsOthers.alloc _ _).trans (KeepsOthers.alloc _ _)).from _) ((Below.heap_alloc _ _ _ (by have := bN1.lt; simp; omega)).trans (Below.heap_alloc W1 _ _ bN1.lt))
      ⟨⟨⟨(bT1.alloc _).alloc _, (b01.alloc _).alloc _⟩, (b11.alloc _).alloc _, (b21.alloc _).alloc _⟩, (bN1.alloc _).alloc _, (hB1.alloc hB1.size _).alloc (by have := hB1.size; simp; omega) _⟩
      ⟨W1.heap.size, W1.heap.size + 1, bN1.lt, by have := bN1.lt; omega, (HeldB.new W1 _ _).alloc _, held_new1 W1 _ _ _, rfl⟩
  case body =>
    rintro l pre x a' W1 hl ⟨rl, hr⟩ ⟨⟨⟨bT1, b01⟩, b11, b21⟩, bN1, hB1⟩ ⟨G1, G2, hG1, hG2, bX, bY, rfl⟩ hlt
    have h1' : 1 ≤ n - 1 - 1 := by omega
    obtain ⟨v1, hv1⟩ : ∃ v, T x.a x.b = v := ⟨_, rfl⟩
    obtain ⟨v2, hv2⟩ : ∃ v, T x.c x.d = v := ⟨_, rfl⟩
    have hl1 := hT x.a x.b x.ha x.hb
    have hl2 := hT x.c x.d x.hc x.hd
    have HO1 := Lib.hid (HOF.out x.a x.b x.ha x.hb)
    have HO2 := Lib.hid (HOF.out x.c x.d x.hc x.hd)
    have hsn : bestP opG T u (pre ++ [x]) = opG (bestP opG T u pre) (v1 + v2) := by rw [bestP_snoc]; unfold prV; rw [hv1, hv2]
    rw [hv1] at hl1 HO1
    rw [hv2] at hl2 HO2
    obtain ⟨hl1a, hl1b⟩ := hl1
    obtain ⟨hl2a, hl2b⟩ := hl2
    have HWV := Lib.hid (show IntKind.i64.wrap (v1 + v2) = v1 + v2 from wrap_few (by omega) (by omega))
    clear hv1 hv2
    obtain ⟨bq, hbq⟩ : ∃ v, bestP opG T u pre = v := ⟨_, rfl⟩
    rw [hbq] at hsn b21
    have HSN := Lib.hid hsn
    clear hsn hbq
    gi_wp2
    refine wpIn_region_any (by kernel_rfl) ?_
    change wpAnyIn _ _ _ _ _ _ _ _ _ (World.drew _)
    refine anyIn_inv (Inv := fun listed a w' => ∃ p0 p1 p2 p3 p4 p5 p6 p7 : Bool, listed = #[p0, p1, p2, p3, p4, p5, p6, p7] ∧ a = { tmps := #[.pointer (some ⟨B, 0, none⟩), .agg #[.int .i64 (w : Int), .int .i64 (h : Int)], .int .i64 u, .pointer (some ⟨W.heap.size, 0, none⟩), .pointer (some ⟨W.heap.size + 1, 0, none⟩), undef, .pointer (some ⟨W.heap.size + 1 + 1, 0, none⟩), .pointer (some ⟨G1, 0, none⟩), .pointer (some ⟨G2, 0, none⟩), (cond p7 (.int .i64 (v1 + v2)) undef), .int .i64 u, .agg #[.int .i64 (w : Int), .int .i64 (h : Int)], .func (.func 59) #[] #[.pointer (some ⟨C, 0, none⟩)], .agg #[.int .i64 (x.a : Int), .int .i64 (x.b : Int)], .agg #[.int .i64 (x.c : Int), .int .i64 (x.d : Int)], (cond p0 (.pointer (some ⟨B, 0, none⟩)) undef), (cond p1 (.agg #[.int .i64 (x.a : Int), .int .i64 (x.b : Int)]) undef), (cond p2 (.int .i64 v1) undef), (cond p3 (.pointer (some ⟨B, 0, none⟩)) undef), (cond p4 (.agg #[.int .i64 (x.c : Int), .int .i64 (x.d : Int)]) undef), (cond p5 (.int .i64 v2) undef), (cond p6 (.int .i64 (v1 + v2)) undef), undef, undef, undef, undef, undef, undef, undef, undef, undef, undef, undef, undef, undef, undef, undef], defers := [] } ∧ Below W1.heap.size W1 w') ?step ?fin 8 _ _ _ (by decide) ⟨false, false, false, false, false, false, false, false, rfl, rfl, below_drewN _ _ 1⟩
    case step =>
      rintro listed a w' i ⟨p0, p1, p2, p3, p4, p5, p6, p7, rfl, rfl, hS⟩ hr
      have hi := ready_lt hr
      have hi8 : i < 8 := (Array.getElem?_eq_some_iff.1 hi).1
      have cT := bT1.below hS
      have k0 : w'.cell? ⟨W.heap.size, 0, none⟩ = some (.pointer (some ⟨B, 0, none⟩)) := (b01.below hS).cell 0
      have k1 : w'.cell? ⟨G1, 0, none⟩ = some (.int .i64 (x.a : Int)) := (bX.below hS).cell 0
      have k2 : w'.cell? ⟨G1, 1, none⟩ = some (.int .i64 (x.b : Int)) := (bX.below hS).cell 1
      have k3 : w'.cell? ⟨G2, 0, none⟩ = some (.int .i64 (x.c : Int)) := (bY.below hS).cell 0
      have k4 : w'.cell? ⟨G2, 1, none⟩ = some (.int .i64 (x.d : Int)) := (bY.below hS).cell 1
      clear bT1 b01 b11 b21 bN1 hB1 bX bY bN bT b0 b1 b2 hB0
      have hcase : i = 0 ∨ i = 1 ∨ i = 2 ∨ i = 3 ∨ i = 4 ∨ i = 5 ∨ i = 6 ∨ i = 7 := by omega
      rcases hcase with rfl | rfl | rfl | rfl | rfl | rfl | rfl | rfl
      · clear hr hi hi8
        refine wpOpIn_step rfl (fun K hK => ?_)
        go_simp
        refine hK _ _ ?_
        exact ⟨true, p1, p2, p3, p4, p5, p6, p7, rfl, rfl, hS⟩
      · clear hr hi hi8
        refine wpOpIn_step rfl (fun K hK => ?_)
        go_simp
        refine hK _ _ ?_
        exact ⟨p0, true, p2, p3, p4, p5, p6, p7, rfl, rfl, hS⟩
      · have e0 := ready_after hr rfl (e := ⟨0, .data⟩) (by simp) rfl
        simp at e0
        subst e0
        have e1 := ready_after hr rfl (e := ⟨1, .data⟩) (by simp) rfl
        simp at e1
        subst e1
        clear hr hi hi8
        refine wpOpIn_step rfl (fun K hK => ?_)
        go_simp
        refine (CallsIn.inRound l (callsIn_wide.2 (HO1.out _ cT))).mono ?_
        rintro e w3 ⟨rfl, hb3⟩
        refine hK _ _ ?_
        exact ⟨true, true, true, p3, p4, p5, p6, p7, rfl, rfl, below_step hS hS.size hb3⟩
      · clear hr hi hi8
        refine wpOpIn_step rfl (fun K hK => ?_)
        go_simp
        refine hK _ _ ?_
        exact ⟨p0, p1, p2, true, p4, p5, p6, p7, rfl, rfl, hS⟩
      · clear hr hi hi8
        refine wpOpIn_step rfl (fun K hK => ?_)
        go_simp
        refine hK _ _ ?_
        exact ⟨p0, p1, p2, p3, true, p5, p6, p7, rfl, rfl, hS⟩
      · have e3 := ready_after hr rfl (e := ⟨3, .data⟩) (by simp) rfl
        simp at e3
        subst e3
        have e4 := ready_after hr rfl (e := ⟨4, .data⟩) (by simp) rfl
        simp at e4
        subst e4
        clear hr hi hi8
        refine wpOpIn_step rfl (fun K hK => ?_)
        go_simp
        refine (CallsIn.inRound l (callsIn_wide.2 (HO2.out _ cT))).mono ?_
        rintro e w3 ⟨rfl, hb3⟩
        refine hK _ _ ?_
        exact ⟨p0, p1, p2, true, true, true, p6, p7, rfl, rfl, below_step hS hS.size hb3⟩
      · have e2 := ready_after hr rfl (e := ⟨2, .data⟩) (by simp) rfl
        simp at e2
        subst e2
        have e5 := ready_after hr rfl (e := ⟨5, .data⟩) (by simp) rfl
        simp at e5
        subst e5
        clear hr hi hi8
        refine wpOpIn_step rfl (fun K hK => ?_)
        go_simp
        rw [HWV.out]
        refine hK _ _ ?_
        exact ⟨p0, p1, true, p3, p4, true, true, p7, rfl, rfl, hS⟩
      · have e6 := ready_after hr rfl (e := ⟨6, .data⟩) (by simp) rfl
        simp at e6
        subst e6
        clear hr hi hi8
        refine wpOpIn_step rfl (fun K hK => ?_)
        go_simp
        refine hK _ _ ?_
        exact ⟨p0, p1, p2, p3, p4, p5, true, true, rfl, rfl, hS⟩
    case fin =>
      rintro listed a w' ⟨p0, p1, p2, p3, p4, p5, p6, p7, rfl, rfl, hS⟩ hr
      have hp7 : p7 = true := by
        clear HSN hS
        revert p0 p1 p2 p3 p4 p5 p6 p7
        decide +kernel
      subst hp7
      clear hr
      replace bT1 := bT1.below hS
      replace b01 := b01.below hS
      replace b11 := b11.below hS
      replace b21 := b21.below hS
      have hkC : w'.heap[C]? = W1.heap[C]? := hS.block C bN1.lt
      replace bN1 := bN1.below hS
      replace hB1 := below_step hB1 hB1.size hS
      have k5 : w'.cell? ⟨W.heap.size + 1 + 1, 0, none⟩ = some (.int .i64 bq) := b21.cell 0
      have f5 := b21.frozen 0
      have HBE := Lib.hid (isBetterGain_any (v1 + v2) bq)
      gi_wp2
      rw [methodGain _ (by omega)]
      go_simp
      gi_wp2_with fail
      refine (CallsIn.inRound l (callsIn_wide.2 (HBE.out _))).mono ?_
      rintro e w2 ⟨rfl, rfl⟩
      clear HBE HO1 HO2
      by_cases hlt2 : bq < v1 + v2
      · have hd : decide (bq < v1 + v2) = true := decide_eq_true hlt2
        have hbest : bestP opG T u (pre ++ [x]) = v1 + v2 := by rw [HSN.out]; unfold opG; rw [if_pos hlt2]
        have HBS := Lib.hid hbest
        clear hbest hlt2 HSN
        gi_wp2
        exact ⟨((sh_keeps hS).trans (KeepsOthers.setCell _ _ _)).from _, (Below.heap_setCell _ _ _ C (by simp; omega)).trans hkC,
          ⟨⟨bT1.other (by simp; omega) _, b01.other (by simp; omega) _⟩, b11.other (by simp) _, (b21.set1 _).eq (by rw [HBS.out])⟩, bN1.other (by simp; omega) _, hB1.setCell (by simp; omega) _⟩
      · have hd : decide (bq < v1 + v2) = false := decide_eq_false hlt2
        have hbest : bestP opG T u (pre ++ [x]) = bq := by rw [HSN.out]; unfold opG; rw [if_neg hlt2]
        have HBS := Lib.hid hbest
        clear hbest hlt2 HSN
        gi_wp2
        exact ⟨(sh_keeps hS).from _, hkC, ⟨⟨bT1, b01⟩, b11, b21.eq (by rw [HBS.out])⟩, bN1, hB1⟩
  case done =>
    rintro D ys W1 hD hys ⟨⟨⟨bT1, b01⟩, b11, b21⟩, bN1, hB1⟩ hK
    rw [bestP_cuts hys, HBP.out] at b21
    clear hys HBP
    have cT := bT1.cell (h * 13 + w)
    rw [tbC_at T w h (by omega) (by omega)] at cT
    have fT := bT1.frozen (h * 13 + w)
    have k0 : W1.cell? ⟨W.heap.size, 0, none⟩ = some (.pointer (some ⟨B, 0, none⟩)) := b01.cell 0
    have k1 : W1.cell? ⟨W.heap.size + 1, 0, none⟩ = some (.int .i64 (w : Int)) := b11.cell 0
    have k2 : W1.cell? ⟨W.heap.size + 1, 1, none⟩ = some (.int .i64 (h : Int)) := b11.cell 1
    have k3 : W1.cell? ⟨W.heap.size + 1 + 1, 0, none⟩ = some (.int .i64 bp) := b21.cell 0
    gi_wp2
    gi_region
    have hK' : (W1.setCell ⟨B, h * 13 + w, none⟩ (.int .i64 bp)).drew.heap[D]? = some (.deferred (some [])) := (KeepsOthers.setCell W1 ⟨B, h * 13 + w, none⟩ (.int .i64 bp)).same D _ hK rfl
    have hT2 : HeldB (W1.setCell ⟨B, h * 13 + w, none⟩ (.int .i64 bp)).drew B 72 (tbC (updT T w h bp)) := ((bT1.set _ _).eq (tbC_set T w h (by omega) (by omega) bp)).drew
    gi_wp2
    refine ⟨by simp, .inl ⟨_, _, rfl, run_takeDeferred hK', ?_⟩⟩
    refine ⟨.tuple #[], results_none rfl _ _ _, ⟨_, rfl⟩, hT2.kept (grownBy_putObj' _ D (.deferred none)) (by simp; omega), hB1.os, hB1.tape, hB1.output, by have := hB1.size; simp [World.putObj, World.drew]; omega, fun k hk hne => ?_⟩
    refine (World.putObj_heap_other (by omega)).trans ((Below.heap_setCell W1 ⟨B, h * 13 + w, none⟩ (.int .i64 bp) k (fun e => hne (by rw [e]))).trans (hB1.block k hk))
  case stop =>
    rintro D c pre W1 hD hpre hx hK
    exact hx.elim

end Go.Proofs.Ytfemfmkgdgcemaa
