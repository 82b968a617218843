/-
  The document's own Read: for every device that memory can hold, every place.
-/
import Derived.Test.YtmkhffopmohdhaaDevRefFlush
namespace Go.Proofs.Ytmkhffopmohdhaa
open Go.RowKit

theorem lastTo_step {cs : List (Int × ByteArray)} {k : Nat} (hk : k < cs.length) (i : Int) (s : ByteArray) : lastTo (cs.take (k + 1)) i s = if wAt cs k = i then wDat cs k else lastTo (cs.take k) i s := by
  have h : cs.take (k + 1) = cs.take k ++ [(wAt cs k, wDat cs k)] := by
    rw [List.take_add_one, wr_get hk]
    rfl
  rw [h, lastTo_snoc]

set_option maxRecDepth 100000 in
set_option maxHeartbeats 2000000 in
theorem refRead_dead (A A' : Option Addr) (n c m c' : Nat) (l : Int) (i : Int) (w : World) :
    Calls Try.prog 23 #[.agg #[.slice A n c, .slice A' m c', .int .i64 l, .bool true], .int .i64 i] w fun e w' => e = .returned (.tuple #[.string ⟨#[]⟩, .int .i64 17]) ∧ Below w.heap.size w w' := by
  go_enter Try.func23, Try.ntmps23
  go_wp2
  go_ret2
  exact ⟨rfl, alloc_below0 _ _⟩

set_option maxRecDepth 100000 in
set_option maxHeartbeats 2000000 in
theorem refRead_place (A A' : Option Addr) (n c m c' : Nat) (l : Int) (i : Int) (w : World) (h : ¬ (0 ≤ i ∧ i < (n : Int))) :
    Calls Try.prog 23 #[.agg #[.slice A n c, .slice A' m c', .int .i64 l, .bool false], .int .i64 i] w fun e w' => e = .returned (.tuple #[.string ⟨#[]⟩, .int .i64 15]) ∧ Below w.heap.size w w' := by
  by_cases h0 : i < 0
  · clear h
    go_enter Try.func23, Try.ntmps23
    go_wp2
    go_ret2
    exact ⟨rfl, alloc_below0 _ _⟩
  · have h1 : (n : Int) ≤ i := by omega
    have hd : decide (i < 0) = false := by simp; omega
    clear h h0
    go_enter Try.func23, Try.ntmps23
    go_wp2
    go_ret2
    exact ⟨rfl, alloc_below0 _ _⟩

set_option maxRecDepth 100000 in
set_option maxHeartbeats 2000000 in
theorem refRead_yes (A A' : Option Addr) (n c m c' : Nat) (d : D) (l : Int) (j : Nat) (w : World) (h : Dv w w.heap.size A n A' m d) (hj : j < n) :
    Calls Try.prog 23 #[.agg #[.slice A n c, .slice A' m c', .int .i64 l, .bool false], .int .i64 j] w fun e w' => e = .returned (.tuple #[.string (lastTo d.cs (j : Int) (blk d.bs j)), .int .i64 0]) ∧ Below w.heap.size w w' := by
  have hm63 : m ≤ 9223372036854775807 := by have := h.hm; omega
  have H := Lib.hid (h.alloc (.cells #[.slice A n c, .slice A' m c', .int .i64 l, .bool false] 26))
  have LC := Lib.hid h.cs.lenW
  have hd : decide ((j : Int) < 0) = false := by simp
  have hd1 : decide (n ≤ j) = false := by simp; omega
  have hjn : (j : Int) < (n : Int) := by omega
  obtain ⟨b0, o0, rfl, _, g0⟩ := H.out.bs.str hj
  clear h
  generalize hs0 : blk d.bs j = s0 at g0
  have S0 := Lib.hid hs0; clear hs0
  go_enter Try.func23, Try.ntmps23
  go_wp2
  go_loopg [6, 7] m (fun g s6 s7 wr => ∃ k : Nat, k ≤ m ∧ m - k ≤ g ∧ s7 = .int .i64 k ∧ s6 = .string (lastTo (d.cs.take k) (j : Int) s0) ∧ wr = w.alloc (.cells #[.slice (some ⟨b0, o0, none⟩) n c, .slice A' m c', .int .i64 l, .bool false] 26))
  case atStart => exact ⟨0, Nat.zero_le _, by omega, rfl, rfl, rfl⟩
  case round =>
    obtain ⟨k, hk, hg, rfl, rfl, rfl⟩ := hrel
    by_cases hlt : k < m
    · have hk1 : (k : Int) < (m : Int) := by omega
      obtain ⟨b2, o2, rfl, _, g2, f2⟩ := H.out.cs.wr hlt
      have HX := Lib.hid (lastTo_step (cs := d.cs) (k := k) (by rw [LC.out]; exact hlt) (j : Int) s0)
      generalize wAt d.cs k = x at g2 HX
      generalize wDat d.cs k = s at f2 HX
      generalize lastTo (d.cs.take k) (j : Int) s0 = old at HX ⊢
      by_cases hx : x = (j : Int)
      · have ht : (x == (j : Int)) = true := by simpa using hx
        have HX2 : Hid (lastTo (d.cs.take (k + 1)) (j : Int) s0 = s) := Lib.hid (by rw [HX.out, if_pos hx])
        clear hx HX
        go_wp2
        go_roundg (m - (k + 1))
        case measure => omega
        case rel => exact ⟨k + 1, by omega, by omega, by go_num, by rw [HX2.out], rfl⟩
      · have ht : (x == (j : Int)) = false := by rw [beq_eq_false_iff_ne]; exact hx
        have HX2 : Hid (lastTo (d.cs.take (k + 1)) (j : Int) s0 = old) := Lib.hid (by rw [HX.out, if_neg hx])
        clear hx HX
        go_wp2
        go_roundg (m - (k + 1))
        case measure => omega
        case rel => exact ⟨k + 1, by omega, by omega, by go_num, by rw [HX2.out], rfl⟩
    · have : k = m := by omega
      subst this
      have HX : Hid (d.cs.take k = d.cs) := Lib.hid (List.take_of_length_le (by rw [LC.out]; exact Nat.le_refl _))
      clear hg hk
      go_wp2
      go_ret2
      exact ⟨by rw [HX.out]; rfl, alloc_below0 _ _⟩

end Go.Proofs.Ytmkhffopmohdhaa
