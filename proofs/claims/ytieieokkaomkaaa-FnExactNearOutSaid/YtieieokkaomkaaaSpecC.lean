
/-
  The model's rooms: how many, where, of how many cells. (Walks.)
-/
import Derived.Test.YtieieokkaomkaaaSpecB
import Derived.Test.YtieieokkaomkaaaLawA
namespace Go.Proofs.Ytieieokkaomkaaa
open Go.RowKit

set_option maxHeartbeats 400000 in
theorem l1Rooms_any (ao : Option Addr) (cap : Nat) (p : List ByteArray) (w : World) (hl : p.length ≤ 1048576) (hs : ∀ s ∈ p, s.size ≤ 1048576)
    (hc : CellsAt w ao (p.map Value.string)) :
    Calls Try.prog 40 #[.slice ao p.length cap] w
      fun e w' => e = .returned (.int .i64 (roomsB p)) ∧ w' = w := by
  go_enter Try.func40, Try.ntmps40
  go_wp2
  go_loop [3, 4, 5] (fun vn vi _ => ∃ (i : Nat) (n : Int), i ≤ p.length ∧ vi = .int .i64 i ∧ vn = .int .i64 n ∧ 0 ≤ n ∧ n ≤ 256 ∧ gridFold roomsF i (p.drop i) n = roomsB p) (fun _ i _ => p.length - (intOf i).toNat)
  case atStart => exact ⟨0, 0, Nat.zero_le _, rfl, rfl, by omega, by omega, rfl⟩
  case round =>
    obtain ⟨i, n, hi, rfl, rfl, hn0, hn1, hq⟩ := hrel
    have HQ := Lib.hid hq; clear hq
    by_cases hlt : i < p.length
    · obtain ⟨b, off, rfl, hck⟩ := hc.str i hlt
      have hsz := hs _ (getD_mem ByteArray.empty hlt)
      have HG := Lib.hid (gridFold_step roomsF i p n hlt)
      generalize p.getD i ByteArray.empty = s at *
      clear hs hc
      go_wp2
      go_loop [3, 5] (fun vn vk => ∃ (k : Nat) (m : Int), k ≤ s.size ∧ vk = .int .i64 k ∧ vn = .int .i64 m ∧ 0 ≤ m ∧ m ≤ 256 ∧ rowFold roomsF i k (s.data.toList.drop k) m = rowFold roomsF i 0 s.data.toList n) (fun _ k => s.size - (intOf k).toNat)
      case atStart => exact ⟨0, n, Nat.zero_le _, rfl, rfl, hn0, hn1, rfl⟩
      case round =>
        obtain ⟨k, m, hk, rfl, rfl, hm0, hm1, hr⟩ := hrel
        have HR := Lib.hid hr; clear hr
        by_cases hkl : k < s.size
        · have hkl' : k < s.data.toList.length := by rw [size_list]; exact hkl
          have hidx := at_list s k hkl
          have HS := Lib.hid (rowFold_step roomsF i k s.data.toList m hkl')
          generalize s.data.toList.getD k 0 = c at *
          have hcl := UInt8.toNat_lt c
          by_cases hmx : m < (c.toNat : Int) - 97 + 1
          · have HX := Lib.hid (show roomsF i k c m = (c.toNat : Int) - 97 + 1 from by simp [roomsF, hmx])
            go_wp2
            go_round
            case rel => exact ⟨k + 1, (c.toNat : Int) - 97 + 1, by omega, by go_num, rfl, by omega, by omega, by rw [← HR.out, HS.out, HX.out]⟩
            case measure => simp [intOf]; omega
          · have HX := Lib.hid (show roomsF i k c m = m from by simp [roomsF, hmx])
            go_wp2
            go_round
            case rel => exact ⟨k + 1, m, by omega, by go_num, rfl, by omega, by omega, by rw [← HR.out, HS.out, HX.out]⟩
            case measure => simp [intOf]; omega
        · have HE := Lib.hid (rowFold_end roomsF i k s.data.toList m (by rw [size_list]; exact hkl))
          go_wp2
          go_round
          case rel => exact ⟨i + 1, m, by omega, by go_num, rfl, hm0, hm1, by rw [← HQ.out, HG.out, ← HR.out, HE.out]⟩
          case measure => simp [intOf]; omega
    · have HE := Lib.hid (gridFold_end roomsF i p n hlt)
      go_wp2
      go_ret
      exact ⟨ret_int (by rw [← HQ.out, HE.out]), rfl⟩


theorem cellsF_yes {room : Int} {i k : Nat} {c : UInt8} {n : Int} (h : (c.toNat : Int) - 97 = room) : cellsF room i k c n = n + 1 := if_pos h
theorem cellsF_no {room : Int} {i k : Nat} {c : UInt8} {n : Int} (h : ¬ (c.toNat : Int) - 97 = room) : cellsF room i k c n = n := if_neg h

set_option maxHeartbeats 400000 in
theorem l1Cells_any (ao : Option Addr) (cap : Nat) (p : List ByteArray) (room : Int) (w : World) (hl : p.length ≤ 1048576) (hs : ∀ s ∈ p, s.size ≤ 1048576)
    (hc : CellsAt w ao (p.map Value.string)) :
    Calls Try.prog 42 #[.slice ao p.length cap, .int .i64 room] w
      fun e w' => e = .returned (.int .i64 (cellsB p room)) ∧ w' = w := by
  go_enter Try.func42, Try.ntmps42
  go_wp2
  go_loop [5, 6, 7] (fun vn vi _ => ∃ (i : Nat) (n : Int), i ≤ p.length ∧ vi = .int .i64 i ∧ vn = .int .i64 n ∧ 0 ≤ n ∧ n ≤ i * 1048576 ∧ gridFold (cellsF room) i (p.drop i) n = cellsB p room) (fun _ i _ => p.length - (intOf i).toNat)
  case atStart => exact ⟨0, 0, Nat.zero_le _, rfl, rfl, by omega, by omega, rfl⟩
  case round =>
    obtain ⟨i, n, hi, rfl, rfl, hn0, hn1, hq⟩ := hrel
    have HQ := Lib.hid hq; clear hq
    by_cases hlt : i < p.length
    · obtain ⟨b, off, rfl, hck⟩ := hc.str i hlt
      have hsz := hs _ (getD_mem ByteArray.empty hlt)
      have HG := Lib.hid (gridFold_step (cellsF room) i p n hlt)
      generalize p.getD i ByteArray.empty = s at *
      clear hs hc
      go_wp2
      go_loop [5, 7] (fun vn vk => ∃ (k : Nat) (m : Int), k ≤ s.size ∧ vk = .int .i64 k ∧ vn = .int .i64 m ∧ 0 ≤ m ∧ m ≤ i * 1048576 + k ∧ rowFold (cellsF room) i k (s.data.toList.drop k) m = rowFold (cellsF room) i 0 s.data.toList n) (fun _ k => s.size - (intOf k).toNat)
      case atStart => exact ⟨0, n, Nat.zero_le _, rfl, rfl, hn0, by omega, rfl⟩
      case round =>
        obtain ⟨k, m, hk, rfl, rfl, hm0, hm1, hr⟩ := hrel
        have HR := Lib.hid hr; clear hr
        by_cases hkl : k < s.size
        · have hkl' : k < s.data.toList.length := by rw [size_list]; exact hkl
          have hidx := at_list s k hkl
          have HS := Lib.hid (rowFold_step (cellsF room) i k s.data.toList m hkl')
          generalize s.data.toList.getD k 0 = c at *
          have hcl := UInt8.toNat_lt c
          by_cases hmx : (c.toNat : Int) - 97 = room
          · have HX := Lib.hid (cellsF_yes (i := i) (k := k) (n := m) hmx)
            have hb : (((c.toNat : Int) - 97) == room) = true := by simpa using hmx
            have HMX := Lib.hid hmx; clear hmx
            go_wp2
            go_round
            case rel => exact ⟨k + 1, m + 1, by omega, by go_num, rfl, by omega, by omega, by rw [← HR.out, HS.out, HX.out]⟩
            case measure => simp [intOf]; omega
          · have HX := Lib.hid (cellsF_no (i := i) (k := k) (n := m) hmx)
            have hb : (((c.toNat : Int) - 97) == room) = false := by simpa using hmx
            have HMX := Lib.hid hmx; clear hmx
            go_wp2
            go_round
            case rel => exact ⟨k + 1, m, by omega, by go_num, rfl, by omega, by omega, by rw [← HR.out, HS.out, HX.out]⟩
            case measure => simp [intOf]; omega
        · have HE := Lib.hid (rowFold_end (cellsF room) i k s.data.toList m (by rw [size_list]; exact hkl))
          go_wp2
          go_round
          case rel => exact ⟨i + 1, m, by omega, by go_num, rfl, hm0, by omega, by rw [← HQ.out, HG.out, ← HR.out, HE.out]⟩
          case measure => simp [intOf]; omega
    · have HE := Lib.hid (gridFold_end (cellsF room) i p n hlt)
      go_wp2
      go_ret
      exact ⟨ret_int (by rw [← HQ.out, HE.out]), rfl⟩

theorem boxF_no {room : Int} {i k : Nat} {c : UInt8} {b : Box4} (h : ¬ (c.toNat : Int) - 97 = room) : boxF room i k c b = b := if_neg h
theorem boxF_yes {room : Int} {i k : Nat} {c : UInt8} {t l lo r : Int} (h : (c.toNat : Int) - 97 = room) : boxF room i k c ⟨t, l, lo, r⟩ = ⟨if (i : Int) < t then i else t, if (k : Int) < l then k else l, if lo < (i : Int) then i else lo, if r < (k : Int) then k else r⟩ := if_pos h

set_option maxHeartbeats 800000 in
theorem l1Room_any (ao : Option Addr) (cap : Nat) (p : List ByteArray) (room : Int) (w : World) (h0 : 0 < p.length) (hl : p.length ≤ 1048576) (hs : ∀ s ∈ p, s.size ≤ 1048576)
    (hc : CellsAt w ao (p.map Value.string)) :
    Calls Try.prog 41 #[.slice ao p.length cap, .int .i64 room] w
      fun e w' => e = .returned (.tuple #[.int .i64 (boxB p room).top, .int .i64 (boxB p room).left, .int .i64 ((boxB p room).low - (boxB p room).top + 1), .int .i64 ((boxB p room).right - (boxB p room).left + 1)]) ∧ w' = w := by
  obtain ⟨b, off, rfl, hc0⟩ := hc.str 0 h0
  rw [Nat.add_zero] at hc0
  have hs00 := hs _ (getD_mem ByteArray.empty h0)
  obtain ⟨bb, hbb⟩ : ∃ bb, boxB p room = bb := ⟨_, rfl⟩
  have hbb2 := hbb
  rw [hbb]
  unfold boxB at hbb
  have HBB := Lib.hid hbb; clear hbb hbb2
  generalize p.getD 0 ByteArray.empty = s0 at *
  go_enter Try.func41, Try.ntmps41
  go_wp2
  go_loop [8, 9, 10, 11, 12, 13] (fun vt vl vlo vr vi _ => ∃ (i : Nat) (t l lo r : Int), i ≤ p.length ∧ vi = .int .i64 i ∧ vt = .int .i64 t ∧ vl = .int .i64 l ∧ vlo = .int .i64 lo ∧ vr = .int .i64 r ∧
      0 ≤ t ∧ t ≤ 1048576 ∧ 0 ≤ l ∧ l ≤ 1048576 ∧ -1 ≤ lo ∧ lo ≤ 1048576 ∧ -1 ≤ r ∧ r ≤ 1048576 ∧ gridFold (boxF room) i (p.drop i) ⟨t, l, lo, r⟩ = bb) (fun _ _ _ _ i _ => p.length - (intOf i).toNat)
  case atStart => exact ⟨0, p.length, s0.size, -1, -1, Nat.zero_le _, rfl, rfl, rfl, rfl, rfl, by omega, by omega, by omega, by omega, by omega, by omega, by omega, by omega, HBB.out⟩
  case round =>
    clear HBB
    obtain ⟨i, t, l, lo, r, hi, rfl, rfl, rfl, rfl, rfl, ht0, ht1, hl0, hl1, hlo0, hlo1, hr0, hr1, hq⟩ := hrel
    have HQ := Lib.hid hq; clear hq
    by_cases hlt : i < p.length
    · obtain ⟨b', off', he, hck⟩ := hc.str i hlt
      simp only [Option.some.injEq, Addr.mk.injEq, and_true] at he
      obtain ⟨rfl, rfl⟩ := he
      have hsz := hs _ (getD_mem ByteArray.empty hlt)
      have HG := Lib.hid (gridFold_step (boxF room) i p ⟨t, l, lo, r⟩ hlt)
      generalize p.getD i ByteArray.empty = s at *
      clear hs hc
      go_wp2
      go_loop [8, 9, 10, 11, 13] (fun vt vl vlo vr vk => ∃ (k : Nat) (t' l' lo' r' : Int), k ≤ s.size ∧ vk = .int .i64 k ∧ vt = .int .i64 t' ∧ vl = .int .i64 l' ∧ vlo = .int .i64 lo' ∧ vr = .int .i64 r' ∧
        0 ≤ t' ∧ t' ≤ 1048576 ∧ 0 ≤ l' ∧ l' ≤ 1048576 ∧ -1 ≤ lo' ∧ lo' ≤ 1048576 ∧ -1 ≤ r' ∧ r' ≤ 1048576 ∧ rowFold (boxF room) i k (s.data.toList.drop k) ⟨t', l', lo', r'⟩ = rowFold (boxF room) i 0 s.data.toList ⟨t, l, lo, r⟩) (fun _ _ _ _ k => s.size - (intOf k).toNat)
      case atStart => exact ⟨0, t, l, lo, r, Nat.zero_le _, rfl, rfl, rfl, rfl, rfl, ht0, ht1, hl0, hl1, hlo0, hlo1, hr0, hr1, rfl⟩
      case round =>
        clear ht0 ht1 hl0 hl1 hlo0 hlo1 hr0 hr1
        obtain ⟨k, t', l', lo', r', hk, rfl, rfl, rfl, rfl, rfl, ht0, ht1, hl0, hl1, hlo0, hlo1, hr0, hr1, hr⟩ := hrel
        have HR := Lib.hid hr; clear hr
        by_cases hkl : k < s.size
        · have hkl' : k < s.data.toList.length := by rw [size_list]; exact hkl
          have hidx := at_list s k hkl
          have HS := Lib.hid (rowFold_step (boxF room) i k s.data.toList ⟨t', l', lo', r'⟩ hkl')
          generalize s.data.toList.getD k 0 = c at *
          have hcl := UInt8.toNat_lt c
          by_cases hmx : (c.toNat : Int) - 97 = room
          · have HX := Lib.hid (boxF_yes (i := i) (k := k) (t := t') (l := l') (lo := lo') (r := r') hmx)
            have hb : (((c.toNat : Int) - 97) == room) = true := by simpa using hmx
            have HMX := Lib.hid hmx; clear hmx
            go_wp2
            go_round
            case rel => exact ⟨k + 1, _, _, _, _, by omega, by go_num, rfl, rfl, rfl, rfl, by split <;> omega, by split <;> omega, by split <;> omega, by split <;> omega, by split <;> omega, by split <;> omega, by split <;> omega, by split <;> omega, by rw [← HR.out, HS.out, HX.out]⟩
            case measure => simp [intOf]; omega
          · have HX := Lib.hid (boxF_no (i := i) (k := k) (b := ⟨t', l', lo', r'⟩) hmx)
            have hb : (((c.toNat : Int) - 97) == room) = false := by simpa using hmx
            have HMX := Lib.hid hmx; clear hmx
            go_wp2
            go_round
            case rel => exact ⟨k + 1, _, _, _, _, by omega, by go_num, rfl, rfl, rfl, rfl, ht0, ht1, hl0, hl1, hlo0, hlo1, hr0, hr1, by rw [← HR.out, HS.out, HX.out]⟩
            case measure => simp [intOf]; omega
        · have HE := Lib.hid (rowFold_end (boxF room) i k s.data.toList ⟨t', l', lo', r'⟩ (by rw [size_list]; exact hkl))
          go_wp2
          go_round
          case rel => exact ⟨i + 1, _, _, _, _, by omega, by go_num, rfl, rfl, rfl, rfl, ht0, ht1, hl0, hl1, hlo0, hlo1, hr0, hr1, by rw [← HQ.out, HG.out, ← HR.out, HE.out]⟩
          case measure => simp [intOf]; omega
    · have he : bb = ⟨t, l, lo, r⟩ := by rw [← HQ.out, gridFold_end (boxF room) i p ⟨t, l, lo, r⟩ hlt]
      have HE := Lib.hid he; clear he
      go_wp2
      refine bodyPost_ret (v := .tuple #[.int .i64 t, .int .i64 l, .int .i64 (lo - t + 1), .int .i64 (r - l + 1)]) (by simp [results, Try.results41, go_sem]) rfl ⟨?_, rfl⟩
      rw [HE.out]

end Go.Proofs.Ytieieokkaomkaaa
