/-
  Where two images differ: the document's function and the program's.
-/
import Derived.Test.YtlpijikhbjkmfaaG02
namespace Go.Proofs.Ytlpijikhbjkmfaa
open Go.RowKit

def cutL (a b : List ByteArray) (i : Nat) : List Nat := (List.range i).filter fun i => decide (a[i]? ≠ b[i]?)
theorem cutL_no {a b : List ByteArray} {i : Nat} (h : a[i]? = b[i]?) : cutL a b (i + 1) = cutL a b i := by simp [cutL, List.range_succ, h]
theorem cutL_yes {a b : List ByteArray} {i : Nat} (h : a[i]? ≠ b[i]?) : cutL a b (i + 1) = cutL a b i ++ [i] := by simp [cutL, List.range_succ, h]

set_option maxRecDepth 100000 in
set_option maxHeartbeats 2000000 in
theorem refChanged_any (A A' : Option Addr) (n c m c' : Nat) (a b : List ByteArray) (w : World) (ha : Reads w w.heap.size 1 A n (encS a)) (hb : Reads w w.heap.size 1 A' m (encS b)) (hn : n * 16 ≤ 140737488355328) (hm : m * 16 ≤ 140737488355328) :
    Calls Try.prog 38 #[.slice A n c, .slice A' m c'] w fun e w' => ∃ A2 c2, e = .returned (.slice A2 (changedL a b).length c2) ∧ w'.ownsRow w.heap.size 3 1 (.slice A2 (changedL a b).length c2) (changedL a b).length (encN (changedL a b)) ∧ Below w.heap.size w w' := by
  obtain ⟨i0, hi0, hz0, hz1, hz2⟩ := info_parts infoI
  have H1 := Lib.hid ha
  have H2 := Lib.hid hb
  have HL := Lib.hid (And.intro ha.lenS hb.lenS)
  clear ha hb
  have HM : Hid (changedL a b = cutL a b (max n m)) := Lib.hid (by rw [← HL.out.1, ← HL.out.2]; rfl)
  rw [HM.out]
  obtain ⟨M, hM⟩ : ∃ M, M = max n m := ⟨_, rfl⟩
  rw [← hM]
  have hnM : n ≤ M := by omega
  have hmM : m ≤ M := by omega
  have hMM : M = n ∨ M = m := by omega
  have hmx : max (n : Int) (m : Int) = (M : Int) := by omega
  have HMM := Lib.hid hM
  clear hM HM
  go_enter Try.func38, Try.ntmps38
  go_wp2
  go_loopg [5, 6] M (fun g s5 s6 wr => ∃ (i k : Nat) (A2 : Option Addr) (c2 : Nat), i ≤ M ∧ M - i ≤ g ∧ s6 = .int .i64 i ∧ s5 = .slice A2 k c2 ∧ k ≤ i ∧ Hid (k = (cutL a b i).length ∧ wr.ownsRow w.heap.size 3 1 (.slice A2 k c2) k (encN (cutL a b i)) ∧ Below w.heap.size w wr))
  case atStart => exact ⟨0, 0, none, 0, Nat.zero_le _, by omega, rfl, rfl, Nat.le_refl _, Lib.hid ⟨rfl, own_nil, Below.refl _ _⟩⟩
  case round =>
    obtain ⟨i, k, A2, c2, hi, hg, rfl, rfl, hki, J⟩ := hrel
    by_cases hlt : i < M
    · have hiM : (i : Int) < (M : Int) := by omega
      by_cases hin : i < n
      · have hin' : (i : Int) < (n : Int) := by omega
        have hin2 : ¬ (n : Int) ≤ (i : Int) := by omega
        by_cases him : i < m
        · have him' : (i : Int) < (m : Int) := by omega
          have him2 : ¬ (m : Int) ≤ (i : Int) := by omega
          obtain ⟨b1, o1, rfl, _, g1⟩ := (H1.out.below J.out.2.2).str hin
          obtain ⟨b2, o2, rfl, _, g2⟩ := (H2.out.below J.out.2.2).str him
          have e1 := blk_get (bs := a) (k := i) (by rw [HL.out.1]; exact hin)
          have e2 := blk_get (bs := b) (k := i) (by rw [HL.out.2]; exact him)
          generalize blk a i = x at g1 e1
          generalize blk b i = y at g2 e2
          by_cases hxy : x = y
          · have HN : Hid (cutL a b (i + 1) = cutL a b i) := Lib.hid (cutL_no (by rw [e1, e2, hxy]))
            have ht := bytes_same hxy
            clear hxy e1 e2
            go_wp2_with fail
            go_quiet (fail)
            go_wp2
            go_roundg (M - (i + 1))
            case measure => omega
            case rel => exact ⟨i + 1, k, A2, c2, by omega, by omega, by go_num, rfl, by omega, Lib.hid (by rw [HN.out]; exact ⟨J.out.1, J.out.2.1, below_drewN J.out.2.2 nq⟩)⟩
          · have HN : Hid (cutL a b (i + 1) = cutL a b i ++ [i]) := Lib.hid (cutL_yes (by rw [e1, e2]; exact fun h => hxy (Option.some.inj h)))
            have ht := bytes_other hxy
            clear hxy e1 e2
            go_wp2_with fail
            go_quiet (fail)
            go_wp2_with (at_builtin; refine wpList_append_reads _ rfl (.tmp 40) (.tmp 42) 41 rfl w.heap.size 3 i0 _ 1 8 Try.underlying41 hi0 hz0 hz1 hz2 rfl (by omega) (.slice A2 k c2) k (encN (cutL a b i)) rfl (own_alloc (w := (wr.drewN nq)) J.out.2.1 _) _ (some ⟨wr.heap.size, 0, none⟩) 1 1 [.int .i64 (i : Int)] rfl (reads_new (wr.drewN nq) #[.int .i64 (i : Int)] 3 1 1 rfl) (by simp [Value.oneCell']) (by simp only [maxLen]; omega) (by omega) (by have := J.out.2.2.size; simp; omega) ?_; intro A6 c6 w6 ho6 hg6 _)
            have JN : Hid (k + 1 = (cutL a b (i + 1)).length ∧ w6.ownsRow w.heap.size 3 1 (.slice A6 (k + 1) c6) (k + 1) (encN (cutL a b (i + 1))) ∧ Below w.heap.size w w6) :=
              Lib.hid ⟨by rw [HN.out, List.length_append, ← J.out.1]; rfl, by rw [HN.out, encN_app]; exact ho6, ((below_drewN J.out.2.2 nq).alloc J.out.2.2.size _).grown hg6 (by have := J.out.2.2.size; simp; omega) (fun q hq => by have := own_row_ge J.out.2.1 _ hq; omega)⟩
            go_roundg (M - (i + 1))
            case measure => omega
            case rel => exact ⟨i + 1, k + 1, A6, c6, by omega, by omega, by go_num, rfl, by omega, JN⟩
        · have him2 : m ≤ i := by omega
          have hd1 : decide (m ≤ i) = true := decide_eq_true him2
          have hd2 : decide (n ≤ i) = false := decide_eq_false (by omega)
          have HN : Hid (cutL a b (i + 1) = cutL a b i ++ [i]) := Lib.hid (cutL_yes (by rw [List.getElem?_eq_none (l := b) (by rw [HL.out.2]; omega), List.getElem?_eq_getElem (l := a) (by rw [HL.out.1]; omega)]; simp))
          go_wp2_with fail
          go_quiet (fail)
          go_wp2_with (at_builtin; refine wpList_append_reads _ rfl (.tmp 40) (.tmp 42) 41 rfl w.heap.size 3 i0 _ 1 8 Try.underlying41 hi0 hz0 hz1 hz2 rfl (by omega) (.slice A2 k c2) k (encN (cutL a b i)) rfl (own_alloc (w := (wr.drewN nq)) J.out.2.1 _) _ (some ⟨wr.heap.size, 0, none⟩) 1 1 [.int .i64 (i : Int)] rfl (reads_new (wr.drewN nq) #[.int .i64 (i : Int)] 3 1 1 rfl) (by simp [Value.oneCell']) (by simp only [maxLen]; omega) (by omega) (by have := J.out.2.2.size; simp; omega) ?_; intro A6 c6 w6 ho6 hg6 _)
          have JN : Hid (k + 1 = (cutL a b (i + 1)).length ∧ w6.ownsRow w.heap.size 3 1 (.slice A6 (k + 1) c6) (k + 1) (encN (cutL a b (i + 1))) ∧ Below w.heap.size w w6) :=
            Lib.hid ⟨by rw [HN.out, List.length_append, ← J.out.1]; rfl, by rw [HN.out, encN_app]; exact ho6, ((below_drewN J.out.2.2 nq).alloc J.out.2.2.size _).grown hg6 (by have := J.out.2.2.size; simp; omega) (fun q hq => by have := own_row_ge J.out.2.1 _ hq; omega)⟩
          go_roundg (M - (i + 1))
          case measure => omega
          case rel => exact ⟨i + 1, k + 1, A6, c6, by omega, by omega, by go_num, rfl, by omega, JN⟩
      · have hin2 : n ≤ i := by omega
        have hd1 : decide (n ≤ i) = true := decide_eq_true hin2
        have him : i < m := by omega
        have him' : (i : Int) < (m : Int) := by omega
        have HN : Hid (cutL a b (i + 1) = cutL a b i ++ [i]) := Lib.hid (cutL_yes (by rw [List.getElem?_eq_none (l := a) (by rw [HL.out.1]; omega), List.getElem?_eq_getElem (l := b) (by rw [HL.out.2]; omega)]; simp))
        go_wp2_with fail
        go_quiet (fail)
        go_wp2_with (at_builtin; refine wpList_append_reads _ rfl (.tmp 40) (.tmp 42) 41 rfl w.heap.size 3 i0 _ 1 8 Try.underlying41 hi0 hz0 hz1 hz2 rfl (by omega) (.slice A2 k c2) k (encN (cutL a b i)) rfl (own_alloc (w := (wr.drewN nq)) J.out.2.1 _) _ (some ⟨wr.heap.size, 0, none⟩) 1 1 [.int .i64 (i : Int)] rfl (reads_new (wr.drewN nq) #[.int .i64 (i : Int)] 3 1 1 rfl) (by simp [Value.oneCell']) (by simp only [maxLen]; omega) (by omega) (by have := J.out.2.2.size; simp; omega) ?_; intro A6 c6 w6 ho6 hg6 _)
        have JN : Hid (k + 1 = (cutL a b (i + 1)).length ∧ w6.ownsRow w.heap.size 3 1 (.slice A6 (k + 1) c6) (k + 1) (encN (cutL a b (i + 1))) ∧ Below w.heap.size w w6) :=
          Lib.hid ⟨by rw [HN.out, List.length_append, ← J.out.1]; rfl, by rw [HN.out, encN_app]; exact ho6, ((below_drewN J.out.2.2 nq).alloc J.out.2.2.size _).grown hg6 (by have := J.out.2.2.size; simp; omega) (fun q hq => by have := own_row_ge J.out.2.1 _ hq; omega)⟩
        go_roundg (M - (i + 1))
        case measure => omega
        case rel => exact ⟨i + 1, k + 1, A6, c6, by omega, by omega, by go_num, rfl, by omega, JN⟩
    · have : i = M := by omega
      subst this
      have hnot : ¬ (i : Int) < (n : Int) := by omega
      have hnot2 : ¬ (i : Int) < (m : Int) := by omega
      go_wp2
      go_ret
      obtain ⟨j1, j2, j3⟩ := J.out
      rw [← j1]
      exact ⟨A2, c2, rfl, j2, j3⟩


end Go.Proofs.Ytlpijikhbjkmfaa

/-
  Where two images differ: the program's function.
-/
namespace Go.Proofs.Ytlpijikhbjkmfaa
open Go.RowKit

set_option maxRecDepth 100000 in
set_option maxHeartbeats 2000000 in
theorem changed_lt (A A' : Option Addr) (n c m c' : Nat) (a b : List ByteArray) (w : World) (ha : Reads w w.heap.size 1 A n (encS a)) (hb : Reads w w.heap.size 1 A' m (encS b)) (hn : n * 16 ≤ 140737488355328) (hm : m * 16 ≤ 140737488355328) (hnm : n < m) :
    Calls Try.prog 18 #[.slice A n c, .slice A' m c'] w fun e w' => ∃ A2 c2, e = .returned (.slice A2 (changedL a b).length c2) ∧ w'.ownsRow w.heap.size 3 1 (.slice A2 (changedL a b).length c2) (changedL a b).length (encN (changedL a b)) ∧ Below w.heap.size w w' := by
  obtain ⟨i0, hi0, hz0, hz1, hz2⟩ := info_parts infoI
  have hnm2 : ¬ m < n := by omega
  have hnm3 : (n : Int) < (m : Int) := by omega
  have H1 := Lib.hid ha
  have H2 := Lib.hid hb
  have HL := Lib.hid (And.intro ha.lenS hb.lenS)
  clear ha hb
  have HM : Hid (changedL a b = cutL a b m) := Lib.hid (by unfold changedL; rw [show max a.length b.length = m by have := HL.out.1; have := HL.out.2; omega]; rfl)
  rw [HM.out]
  clear HM
  go_enter Try.func18, Try.ntmps18
  go_wp2
  go_loopg [5, 12] m (fun g s5 s6 wr => ∃ (i k : Nat) (A2 : Option Addr) (c2 : Nat), i ≤ m ∧ m - i ≤ g ∧ s6 = .int .i64 i ∧ s5 = .slice A2 k c2 ∧ k ≤ i ∧ Hid (k = (cutL a b i).length ∧ wr.ownsRow w.heap.size 3 1 (.slice A2 k c2) k (encN (cutL a b i)) ∧ Below w.heap.size w wr))
  case atStart => exact ⟨0, 0, none, 0, Nat.zero_le _, by omega, rfl, rfl, Nat.le_refl _, Lib.hid ⟨rfl, own_nil, Below.refl _ _⟩⟩
  case round =>
    obtain ⟨i, k, A2, c2, hi, hg, rfl, rfl, hki, J⟩ := hrel
    by_cases hlt : i < m
    · have hiM : (i : Int) < (m : Int) := by omega
      by_cases hsh : i < n
      · have hin : i < n := hsh
        have him : i < m := hlt
        obtain ⟨b1, o1, rfl, _, g1⟩ := (H1.out.below J.out.2.2).str hin
        obtain ⟨b2, o2, rfl, _, g2⟩ := (H2.out.below J.out.2.2).str him
        have e1 := blk_get (bs := a) (k := i) (by rw [HL.out.1]; exact hin)
        have e2 := blk_get (bs := b) (k := i) (by rw [HL.out.2]; exact him)
        generalize blk a i = x at g1 e1
        generalize blk b i = y at g2 e2
        have hd3 : decide (n ≤ i) = false := decide_eq_false (by omega)
        by_cases hxy : x = y
        · have HN : Hid (cutL a b (i + 1) = cutL a b i) := Lib.hid (cutL_no (by rw [e1, e2, hxy]))
          have ht := bytes_same hxy
          clear hxy e1 e2
          go_wp2_with fail
          go_quiet (fail)
          go_wp2
          go_roundg (m - (i + 1))
          case measure => omega
          case rel => exact ⟨i + 1, k, A2, c2, by omega, by omega, by go_num, rfl, by omega, Lib.hid (by rw [HN.out]; exact ⟨J.out.1, J.out.2.1, below_drewN J.out.2.2 nq⟩)⟩
        · have HN : Hid (cutL a b (i + 1) = cutL a b i ++ [i]) := Lib.hid (cutL_yes (by rw [e1, e2]; exact fun h => hxy (Option.some.inj h)))
          have ht := bytes_other hxy
          clear hxy e1 e2
          go_wp2_with fail
          go_quiet (fail)
          go_wp2_with (at_builtin; refine wpList_append_reads _ rfl (.tmp 33) (.tmp 35) 41 rfl w.heap.size 3 i0 _ 1 8 Try.underlying41 hi0 hz0 hz1 hz2 rfl (by omega) (.slice A2 k c2) k (encN (cutL a b i)) rfl (own_alloc (w := (wr.drewN nq)) J.out.2.1 _) _ (some ⟨wr.heap.size, 0, none⟩) 1 1 [.int .i64 (i : Int)] rfl (reads_new (wr.drewN nq) #[.int .i64 (i : Int)] 3 1 1 rfl) (by simp [Value.oneCell']) (by simp only [maxLen]; omega) (by omega) (by have := J.out.2.2.size; simp; omega) ?_; intro A6 c6 w6 ho6 hg6 _)
          have JN : Hid (k + 1 = (cutL a b (i + 1)).length ∧ w6.ownsRow w.heap.size 3 1 (.slice A6 (k + 1) c6) (k + 1) (encN (cutL a b (i + 1))) ∧ Below w.heap.size w w6) :=
            Lib.hid ⟨by rw [HN.out, List.length_append, ← J.out.1]; rfl, by rw [HN.out, encN_app]; exact ho6, ((below_drewN J.out.2.2 nq).alloc J.out.2.2.size _).grown hg6 (by have := J.out.2.2.size; simp; omega) (fun q hq => by have := own_row_ge J.out.2.1 _ hq; omega)⟩
          go_roundg (m - (i + 1))
          case measure => omega
          case rel => exact ⟨i + 1, k + 1, A6, c6, by omega, by omega, by go_num, rfl, by omega, JN⟩
      · have hd3 : decide (n ≤ i) = true := decide_eq_true (by omega)
        have HN : Hid (cutL a b (i + 1) = cutL a b i ++ [i]) := Lib.hid (cutL_yes (by rw [List.getElem?_eq_none (l := a) (by rw [HL.out.1]; omega), List.getElem?_eq_getElem (l := b) (by rw [HL.out.2]; omega)]; simp))
        go_wp2_with fail
        go_quiet (fail)
        go_wp2_with (at_builtin; refine wpList_append_reads _ rfl (.tmp 33) (.tmp 35) 41 rfl w.heap.size 3 i0 _ 1 8 Try.underlying41 hi0 hz0 hz1 hz2 rfl (by omega) (.slice A2 k c2) k (encN (cutL a b i)) rfl (own_alloc (w := (wr.drewN nq)) J.out.2.1 _) _ (some ⟨wr.heap.size, 0, none⟩) 1 1 [.int .i64 (i : Int)] rfl (reads_new (wr.drewN nq) #[.int .i64 (i : Int)] 3 1 1 rfl) (by simp [Value.oneCell']) (by simp only [maxLen]; omega) (by omega) (by have := J.out.2.2.size; simp; omega) ?_; intro A6 c6 w6 ho6 hg6 _)
        have JN : Hid (k + 1 = (cutL a b (i + 1)).length ∧ w6.ownsRow w.heap.size 3 1 (.slice A6 (k + 1) c6) (k + 1) (encN (cutL a b (i + 1))) ∧ Below w.heap.size w w6) :=
          Lib.hid ⟨by rw [HN.out, List.length_append, ← J.out.1]; rfl, by rw [HN.out, encN_app]; exact ho6, ((below_drewN J.out.2.2 nq).alloc J.out.2.2.size _).grown hg6 (by have := J.out.2.2.size; simp; omega) (fun q hq => by have := own_row_ge J.out.2.1 _ hq; omega)⟩
        go_roundg (m - (i + 1))
        case measure => omega
        case rel => exact ⟨i + 1, k + 1, A6, c6, by omega, by omega, by go_num, rfl, by omega, JN⟩
    · have hiM : i = m := by omega
      subst hiM
      go_wp2
      go_ret
      obtain ⟨j1, j2, j3⟩ := J.out
      rw [← j1]
      exact ⟨A2, c2, rfl, j2, j3⟩

set_option maxRecDepth 100000 in
set_option maxHeartbeats 2000000 in
theorem changed_gt (A A' : Option Addr) (n c m c' : Nat) (a b : List ByteArray) (w : World) (ha : Reads w w.heap.size 1 A n (encS a)) (hb : Reads w w.heap.size 1 A' m (encS b)) (hn : n * 16 ≤ 140737488355328) (hm : m * 16 ≤ 140737488355328) (hnm : m < n) :
    Calls Try.prog 18 #[.slice A n c, .slice A' m c'] w fun e w' => ∃ A2 c2, e = .returned (.slice A2 (changedL a b).length c2) ∧ w'.ownsRow w.heap.size 3 1 (.slice A2 (changedL a b).length c2) (changedL a b).length (encN (changedL a b)) ∧ Below w.heap.size w w' := by
  obtain ⟨i0, hi0, hz0, hz1, hz2⟩ := info_parts infoI
  have hnm2 : ¬ n < m := by omega
  have hnm3 : (m : Int) < (n : Int) := by omega
  have H1 := Lib.hid ha
  have H2 := Lib.hid hb
  have HL := Lib.hid (And.intro ha.lenS hb.lenS)
  clear ha hb
  have HM : Hid (changedL a b = cutL a b n) := Lib.hid (by unfold changedL; rw [show max a.length b.length = n by have := HL.out.1; have := HL.out.2; omega]; rfl)
  rw [HM.out]
  clear HM
  go_enter Try.func18, Try.ntmps18
  go_wp2
  go_loopg [5, 12] n (fun g s5 s6 wr => ∃ (i k : Nat) (A2 : Option Addr) (c2 : Nat), i ≤ n ∧ n - i ≤ g ∧ s6 = .int .i64 i ∧ s5 = .slice A2 k c2 ∧ k ≤ i ∧ Hid (k = (cutL a b i).length ∧ wr.ownsRow w.heap.size 3 1 (.slice A2 k c2) k (encN (cutL a b i)) ∧ Below w.heap.size w wr))
  case atStart => exact ⟨0, 0, none, 0, Nat.zero_le _, by omega, rfl, rfl, Nat.le_refl _, Lib.hid ⟨rfl, own_nil, Below.refl _ _⟩⟩
  case round =>
    obtain ⟨i, k, A2, c2, hi, hg, rfl, rfl, hki, J⟩ := hrel
    by_cases hlt : i < n
    · have hiM : (i : Int) < (n : Int) := by omega
      by_cases hsh : i < m
      · have him : i < m := hsh
        have hin : i < n := hlt
        obtain ⟨b1, o1, rfl, _, g1⟩ := (H1.out.below J.out.2.2).str hin
        obtain ⟨b2, o2, rfl, _, g2⟩ := (H2.out.below J.out.2.2).str him
        have e1 := blk_get (bs := a) (k := i) (by rw [HL.out.1]; exact hin)
        have e2 := blk_get (bs := b) (k := i) (by rw [HL.out.2]; exact him)
        generalize blk a i = x at g1 e1
        generalize blk b i = y at g2 e2
        have hd3 : decide (m ≤ i) = false := decide_eq_false (by omega)
        by_cases hxy : x = y
        · have HN : Hid (cutL a b (i + 1) = cutL a b i) := Lib.hid (cutL_no (by rw [e1, e2, hxy]))
          have ht := bytes_same hxy
          clear hxy e1 e2
          go_wp2_with fail
          go_quiet (fail)
          go_wp2
          go_roundg (n - (i + 1))
          case measure => omega
          case rel => exact ⟨i + 1, k, A2, c2, by omega, by omega, by go_num, rfl, by omega, Lib.hid (by rw [HN.out]; exact ⟨J.out.1, J.out.2.1, below_drewN J.out.2.2 nq⟩)⟩
        · have HN : Hid (cutL a b (i + 1) = cutL a b i ++ [i]) := Lib.hid (cutL_yes (by rw [e1, e2]; exact fun h => hxy (Option.some.inj h)))
          have ht := bytes_other hxy
          clear hxy e1 e2
          go_wp2_with fail
          go_quiet (fail)
          go_wp2_with (at_builtin; refine wpList_append_reads _ rfl (.tmp 33) (.tmp 35) 41 rfl w.heap.size 3 i0 _ 1 8 Try.underlying41 hi0 hz0 hz1 hz2 rfl (by omega) (.slice A2 k c2) k (encN (cutL a b i)) rfl (own_alloc (w := (wr.drewN nq)) J.out.2.1 _) _ (some ⟨wr.heap.size, 0, none⟩) 1 1 [.int .i64 (i : Int)] rfl (reads_new (wr.drewN nq) #[.int .i64 (i : Int)] 3 1 1 rfl) (by simp [Value.oneCell']) (by simp only [maxLen]; omega) (by omega) (by have := J.out.2.2.size; simp; omega) ?_; intro A6 c6 w6 ho6 hg6 _)
          have JN : Hid (k + 1 = (cutL a b (i + 1)).length ∧ w6.ownsRow w.heap.size 3 1 (.slice A6 (k + 1) c6) (k + 1) (encN (cutL a b (i + 1))) ∧ Below w.heap.size w w6) :=
            Lib.hid ⟨by rw [HN.out, List.length_append, ← J.out.1]; rfl, by rw [HN.out, encN_app]; exact ho6, ((below_drewN J.out.2.2 nq).alloc J.out.2.2.size _).grown hg6 (by have := J.out.2.2.size; simp; omega) (fun q hq => by have := own_row_ge J.out.2.1 _ hq; omega)⟩
          go_roundg (n - (i + 1))
          case measure => omega
          case rel => exact ⟨i + 1, k + 1, A6, c6, by omega, by omega, by go_num, rfl, by omega, JN⟩
      · have hd3 : decide (m ≤ i) = true := decide_eq_true (by omega)
        have HN : Hid (cutL a b (i + 1) = cutL a b i ++ [i]) := Lib.hid (cutL_yes (by rw [List.getElem?_eq_none (l := b) (by rw [HL.out.2]; omega), List.getElem?_eq_getElem (l := a) (by rw [HL.out.1]; omega)]; simp))
        go_wp2_with fail
        go_quiet (fail)
        go_wp2_with (at_builtin; refine wpList_append_reads _ rfl (.tmp 33) (.tmp 35) 41 rfl w.heap.size 3 i0 _ 1 8 Try.underlying41 hi0 hz0 hz1 hz2 rfl (by omega) (.slice A2 k c2) k (encN (cutL a b i)) rfl (own_alloc (w := (wr.drewN nq)) J.out.2.1 _) _ (some ⟨wr.heap.size, 0, none⟩) 1 1 [.int .i64 (i : Int)] rfl (reads_new (wr.drewN nq) #[.int .i64 (i : Int)] 3 1 1 rfl) (by simp [Value.oneCell']) (by simp only [maxLen]; omega) (by omega) (by have := J.out.2.2.size; simp; omega) ?_; intro A6 c6 w6 ho6 hg6 _)
        have JN : Hid (k + 1 = (cutL a b (i + 1)).length ∧ w6.ownsRow w.heap.size 3 1 (.slice A6 (k + 1) c6) (k + 1) (encN (cutL a b (i + 1))) ∧ Below w.heap.size w w6) :=
          Lib.hid ⟨by rw [HN.out, List.length_append, ← J.out.1]; rfl, by rw [HN.out, encN_app]; exact ho6, ((below_drewN J.out.2.2 nq).alloc J.out.2.2.size _).grown hg6 (by have := J.out.2.2.size; simp; omega) (fun q hq => by have := own_row_ge J.out.2.1 _ hq; omega)⟩
        go_roundg (n - (i + 1))
        case measure => omega
        case rel => exact ⟨i + 1, k + 1, A6, c6, by omega, by omega, by go_num, rfl, by omega, JN⟩
    · have hiM : i = n := by omega
      subst hiM
      go_wp2
      go_ret
      obtain ⟨j1, j2, j3⟩ := J.out
      rw [← j1]
      exact ⟨A2, c2, rfl, j2, j3⟩

set_option maxRecDepth 100000 in
set_option maxHeartbeats 2000000 in
theorem changed_eq (A A' : Option Addr) (n c m c' : Nat) (a b : List ByteArray) (w : World) (ha : Reads w w.heap.size 1 A n (encS a)) (hb : Reads w w.heap.size 1 A' m (encS b)) (hn : n * 16 ≤ 140737488355328) (hm : m * 16 ≤ 140737488355328) (hnm : n = m) :
    Calls Try.prog 18 #[.slice A n c, .slice A' m c'] w fun e w' => ∃ A2 c2, e = .returned (.slice A2 (changedL a b).length c2) ∧ w'.ownsRow w.heap.size 3 1 (.slice A2 (changedL a b).length c2) (changedL a b).length (encN (changedL a b)) ∧ Below w.heap.size w w' := by
  obtain ⟨i0, hi0, hz0, hz1, hz2⟩ := info_parts infoI
  subst hnm
  have H1 := Lib.hid ha
  have H2 := Lib.hid hb
  have HL := Lib.hid (And.intro ha.lenS hb.lenS)
  clear ha hb
  have HM : Hid (changedL a b = cutL a b n) := Lib.hid (by unfold changedL; rw [show max a.length b.length = n by have := HL.out.1; have := HL.out.2; omega]; rfl)
  rw [HM.out]
  clear HM
  go_enter Try.func18, Try.ntmps18
  go_wp2
  go_loopg [5, 12] n (fun g s5 s6 wr => ∃ (i k : Nat) (A2 : Option Addr) (c2 : Nat), i ≤ n ∧ n - i ≤ g ∧ s6 = .int .i64 i ∧ s5 = .slice A2 k c2 ∧ k ≤ i ∧ Hid (k = (cutL a b i).length ∧ wr.ownsRow w.heap.size 3 1 (.slice A2 k c2) k (encN (cutL a b i)) ∧ Below w.heap.size w wr))
  case atStart => exact ⟨0, 0, none, 0, Nat.zero_le _, by omega, rfl, rfl, Nat.le_refl _, Lib.hid ⟨rfl, own_nil, Below.refl _ _⟩⟩
  case round =>
    obtain ⟨i, k, A2, c2, hi, hg, rfl, rfl, hki, J⟩ := hrel
    by_cases hlt : i < n
    · have hiM : (i : Int) < (n : Int) := by omega
      have hin : i < n := hlt
      have him : i < n := hlt
      obtain ⟨b1, o1, rfl, _, g1⟩ := (H1.out.below J.out.2.2).str hin
      obtain ⟨b2, o2, rfl, _, g2⟩ := (H2.out.below J.out.2.2).str him
      have e1 := blk_get (bs := a) (k := i) (by rw [HL.out.1]; exact hin)
      have e2 := blk_get (bs := b) (k := i) (by rw [HL.out.2]; exact him)
      generalize blk a i = x at g1 e1
      generalize blk b i = y at g2 e2
      have hd3 : decide (n ≤ i) = false := decide_eq_false (by omega)
      by_cases hxy : x = y
      · have HN : Hid (cutL a b (i + 1) = cutL a b i) := Lib.hid (cutL_no (by rw [e1, e2, hxy]))
        have ht := bytes_same hxy
        clear hxy e1 e2
        go_wp2_with fail
        go_quiet (fail)
        go_wp2
        go_roundg (n - (i + 1))
        case measure => omega
        case rel => exact ⟨i + 1, k, A2, c2, by omega, by omega, by go_num, rfl, by omega, Lib.hid (by rw [HN.out]; exact ⟨J.out.1, J.out.2.1, below_drewN J.out.2.2 nq⟩)⟩
      · have HN : Hid (cutL a b (i + 1) = cutL a b i ++ [i]) := Lib.hid (cutL_yes (by rw [e1, e2]; exact fun h => hxy (Option.some.inj h)))
        have ht := bytes_other hxy
        clear hxy e1 e2
        go_wp2_with fail
        go_quiet (fail)
        go_wp2_with (at_builtin; refine wpList_append_reads _ rfl (.tmp 33) (.tmp 35) 41 rfl w.heap.size 3 i0 _ 1 8 Try.underlying41 hi0 hz0 hz1 hz2 rfl (by omega) (.slice A2 k c2) k (encN (cutL a b i)) rfl (own_alloc (w := (wr.drewN nq)) J.out.2.1 _) _ (some ⟨wr.heap.size, 0, none⟩) 1 1 [.int .i64 (i : Int)] rfl (reads_new (wr.drewN nq) #[.int .i64 (i : Int)] 3 1 1 rfl) (by simp [Value.oneCell']) (by simp only [maxLen]; omega) (by omega) (by have := J.out.2.2.size; simp; omega) ?_; intro A6 c6 w6 ho6 hg6 _)
        have JN : Hid (k + 1 = (cutL a b (i + 1)).length ∧ w6.ownsRow w.heap.size 3 1 (.slice A6 (k + 1) c6) (k + 1) (encN (cutL a b (i + 1))) ∧ Below w.heap.size w w6) :=
          Lib.hid ⟨by rw [HN.out, List.length_append, ← J.out.1]; rfl, by rw [HN.out, encN_app]; exact ho6, ((below_drewN J.out.2.2 nq).alloc J.out.2.2.size _).grown hg6 (by have := J.out.2.2.size; simp; omega) (fun q hq => by have := own_row_ge J.out.2.1 _ hq; omega)⟩
        go_roundg (n - (i + 1))
        case measure => omega
        case rel => exact ⟨i + 1, k + 1, A6, c6, by omega, by omega, by go_num, rfl, by omega, JN⟩
    · have hiM : i = n := by omega
      subst hiM
      go_wp2
      go_ret
      obtain ⟨j1, j2, j3⟩ := J.out
      rw [← j1]
      exact ⟨A2, c2, rfl, j2, j3⟩

theorem changed_any (A A' : Option Addr) (n c m c' : Nat) (a b : List ByteArray) (w : World) (ha : Reads w w.heap.size 1 A n (encS a)) (hb : Reads w w.heap.size 1 A' m (encS b)) (hn : n * 16 ≤ 140737488355328) (hm : m * 16 ≤ 140737488355328) :
    Calls Try.prog 18 #[.slice A n c, .slice A' m c'] w fun e w' => ∃ A2 c2, e = .returned (.slice A2 (changedL a b).length c2) ∧ w'.ownsRow w.heap.size 3 1 (.slice A2 (changedL a b).length c2) (changedL a b).length (encN (changedL a b)) ∧ Below w.heap.size w w' := by
  rcases Nat.lt_trichotomy n m with h | h | h
  · exact changed_lt A A' n c m c' a b w ha hb hn hm h
  · exact changed_eq A A' n c m c' a b w ha hb hn hm h
  · exact changed_gt A A' n c m c' a b w ha hb hn hm h

end Go.Proofs.Ytlpijikhbjkmfaa
