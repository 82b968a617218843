/-
  The contracts of slices.Clone and slices.Equal at texts and at writes: for all slices, nil and empty ones too.
-/
import Derived.Test.YtmkhffopmohdhaaDevMem
import Derived.WalkSpells
import Derived.WalkLawsBesides
import Derived.Deep.LoopGhost
import Derived.Deep.QuietTactic
import Derived.BigQuiet
import Derived.Laws.StructEq
namespace Go.Proofs.Ytmkhffopmohdhaa
open Go.RowKit

set_option maxHeartbeats 1000000 in
theorem cloneS_any (A : Option Addr) (n c : Nat) (bs : List ByteArray) (w : World) (h : Reads w w.heap.size 1 A n (encS bs)) (hb : n * 16 ≤ 140737488355328) :
    Calls Try.prog 45 #[.slice A n c] w fun e w' => ∃ A2 c2, e = .returned (.slice A2 n c2) ∧ w'.ownsRow w.heap.size 9 1 (.slice A2 n c2) n (encS bs) ∧ Below w.heap.size w w' := by
  have q := fun (w : World) (a : Option Addr) (n c n' c' : Nat) => Lib.run_eql_slice_nil (P := Try.prog) w _ _ a n c n' c' Try.underlying23
  obtain ⟨i0, hi0, hz0, hz1, hz2⟩ := info_parts infoS
  rcases A with _ | ad
  · have hn : n = 0 := by
      rcases Nat.eq_zero_or_pos n with h0 | h0
      · exact h0
      · obtain ⟨_, _, e, _⟩ := h.2 h0
        cases e
    subst hn
    have he : encS bs = [] := List.eq_nil_of_length_eq_zero (by have := h.1; omega)
    have H := Lib.hid he; clear he
    go_enter Try.func45, Try.ntmps45
    go_wp2
    go_ret
    exact ⟨none, 0, rfl, by rw [H.out]; exact own_nil, Below.refl _ _⟩
  · have hr := Lib.hid h; clear h
    go_enter Try.func45, Try.ntmps45
    go_wp2_with (at_builtin; refine wpList_append_reads _ rfl _ _ 23 rfl w.heap.size 9 i0 _ 1 16 Try.underlying23 hi0 hz0 hz1 hz2 rfl (by omega) _ 0 _ rfl (World.ownsRow_made w #[] 0 (Nat.le_refl _) (Nat.zero_le _) (by simp)) _ (some ad) n c (encS bs) rfl (hr.out.alloc _) (encS_one bs) ?_ ?_ ?_ ?_)
    · simp only [maxLen]; omega
    · rw [Nat.zero_add]; exact hb
    · simp
    intro A2 c2 w1 hown hgrow _
    go_wp2
    go_ret
    refine ⟨_, _, rfl, by simpa using hown, ?_⟩
    exact ((Below.refl _ w).alloc (Nat.le_refl _) _).grown hgrow (by simp) (by intro k hk; simp [Value.ownBlock] at hk; omega)

set_option maxHeartbeats 1000000 in
theorem cloneW_any (A : Option Addr) (n c : Nat) (cs : List (Int × ByteArray)) (w : World) (h : Reads w w.heap.size 2 A n (encW cs)) (hb : n * 24 ≤ 140737488355328) :
    Calls Try.prog 46 #[.slice A n c] w fun e w' => ∃ A2 c2, e = .returned (.slice A2 n c2) ∧ w'.ownsRow w.heap.size 51 2 (.slice A2 n c2) n (encW cs) ∧ Below w.heap.size w w' := by
  have q := fun (w : World) (a : Option Addr) (n c n' c' : Nat) => Lib.run_eql_slice_nil (P := Try.prog) w _ _ a n c n' c' Try.underlying24
  obtain ⟨i0, hi0, hz0, hz1, hz2⟩ := info_parts infoW
  rcases A with _ | ad
  · have hn : n = 0 := by
      rcases Nat.eq_zero_or_pos n with h0 | h0
      · exact h0
      · obtain ⟨_, _, e, _⟩ := h.2 h0
        cases e
    subst hn
    have he : encW cs = [] := List.eq_nil_of_length_eq_zero (by have := h.1; omega)
    have H := Lib.hid he; clear he
    go_enter Try.func46, Try.ntmps46
    go_wp2
    go_ret
    exact ⟨none, 0, rfl, by rw [H.out]; exact own_nil, Below.refl _ _⟩
  · have hr := Lib.hid h; clear h
    go_enter Try.func46, Try.ntmps46
    go_wp2_with (at_builtin; refine wpList_append_reads _ rfl _ _ 24 rfl w.heap.size 51 i0 _ 2 24 Try.underlying24 hi0 hz0 hz1 hz2 rfl (by omega) _ 0 _ rfl (World.ownsRow_made w #[] 0 (Nat.le_refl _) (Nat.zero_le _) (by simp)) _ (some ad) n c (encW cs) rfl (hr.out.alloc _) (encW_one cs) ?_ ?_ ?_ ?_)
    · simp only [maxLen]; omega
    · rw [Nat.zero_add]; exact hb
    · simp
    intro A2 c2 w1 hown hgrow _
    go_wp2
    go_ret
    refine ⟨_, _, rfl, by simpa using hown, ?_⟩
    exact ((Below.refl _ w).alloc (Nat.le_refl _) _).grown hgrow (by simp) (by intro k hk; simp [Value.ownBlock] at hk; omega)

theorem ne_of_blk {xs ys : List ByteArray} {k : Nat} (h : blk xs k ≠ blk ys k) : xs ≠ ys := fun e => h (by rw [e])
theorem eq_of_blk {xs ys : List ByteArray} (hl : xs.length = ys.length) (h : ∀ j, j < xs.length → blk xs j = blk ys j) : xs = ys := by
  refine List.ext_getElem? fun j => ?_
  by_cases hj : j < xs.length
  · rw [blk_get hj, blk_get (by omega), h j hj]
  · rw [List.getElem?_eq_none (by omega), List.getElem?_eq_none (by omega)]
theorem ne_of_wr {xs ys : List (Int × ByteArray)} {k : Nat} (h : ¬ (wAt xs k = wAt ys k ∧ wDat xs k = wDat ys k)) : xs ≠ ys := fun e => h (by rw [e]; exact ⟨rfl, rfl⟩)
theorem eq_of_wr {xs ys : List (Int × ByteArray)} (hl : xs.length = ys.length) (h : ∀ j, j < xs.length → wAt xs j = wAt ys j ∧ wDat xs j = wDat ys j) : xs = ys := by
  refine List.ext_getElem? fun j => ?_
  by_cases hj : j < xs.length
  · rw [wr_get hj, wr_get (by omega), (h j hj).1, (h j hj).2]
  · rw [List.getElem?_eq_none (by omega), List.getElem?_eq_none (by omega)]
theorem bytes_same {a b : ByteArray} (h : a = b) : (a.toList == b.toList) = true := by subst h; simp
theorem bytes_inj {a b : ByteArray} (h : a.toList = b.toList) : a = b := by
  rw [ByteArray.toList_eq, ByteArray.toList_eq] at h
  obtain ⟨x⟩ := a
  obtain ⟨y⟩ := b
  exact congrArg ByteArray.mk (Array.toList_inj.1 h)
theorem bytes_other {a b : ByteArray} (h : a ≠ b) : (a.toList == b.toList) = false := by
  rw [beq_eq_false_iff_ne]
  exact fun e => h (bytes_inj e)

set_option maxHeartbeats 2000000 in
set_option maxRecDepth 100000 in
theorem equalS_any (A A' : Option Addr) (n c m c' : Nat) (xs ys : List ByteArray) (w : World) (B B' : Nat) (hx : Reads w B 1 A n (encS xs)) (hy : Reads w B' 1 A' m (encS ys)) (hn : n ≤ maxLen) (hm : m ≤ maxLen) :
    Calls Try.prog 29 #[.slice A n c, .slice A' m c'] w fun e w' => e = .returned (.bool (decide (xs = ys))) ∧ ∃ q, w' = w.drewN q := by
  unfold maxLen at hn hm
  have lx := hx.lenS
  have ly := hy.lenS
  by_cases hnm : n = m
  · subst hnm
    go_enter Try.func29, Try.ntmps29
    go_wp2
    go_loopg [13] n (fun g s13 wr => ∃ k q : Nat, k ≤ n ∧ n - k ≤ g ∧ s13 = .int .i64 k ∧ wr = w.drewN q ∧ Hid (∀ j, j < k → blk xs j = blk ys j))
    case atStart => exact ⟨0, 0, Nat.zero_le _, by omega, rfl, rfl, Lib.hid fun j hj => absurd hj (Nat.not_lt_zero _)⟩
    case round =>
      obtain ⟨k, q, hk, hg, rfl, rfl, H⟩ := hrel
      by_cases hlt : k < n
      · obtain ⟨b1, o1, rfl, _, g1⟩ := hx.str hlt
        obtain ⟨b2, o2, rfl, _, g2⟩ := hy.str hlt
        have HX := Lib.hid hx; have HY := Lib.hid hy; have LX := Lib.hid lx; have LY := Lib.hid ly
        clear hx hy lx ly
        generalize hxk : blk xs k = x at g1
        generalize hyk : blk ys k = y at g2
        have Bk : Hid (blk xs k = x ∧ blk ys k = y) := Lib.hid ⟨hxk, hyk⟩
        clear hxk hyk
        have hk1 : (k : Int) < (n : Int) := by omega
        by_cases hxy : x = y
        · have ht := bytes_same hxy
          have HXY := Lib.hid hxy; clear hxy
          go_wp2_with fail
          go_quiet (fail)
          go_wp2
          go_roundg (n - (k + 1))
          case measure => omega
          case rel =>
            refine ⟨k + 1, q + nq, by omega, by omega, by go_num, rfl, Lib.hid fun j hj => ?_⟩
            by_cases e : j = k
            · subst e
              rw [Bk.out.1, Bk.out.2]; exact HXY.out
            · exact H.out j (by omega)
        · have ht := bytes_other hxy
          have HXY := Lib.hid hxy; clear hxy
          go_wp2_with fail
          go_quiet (fail)
          go_wp2
          go_ret
          refine ⟨?_, q + nq, World.drewN_drewN ..⟩
          rw [decide_eq_false (ne_of_blk (k := k) (by rw [Bk.out.1, Bk.out.2]; exact HXY.out))]; rfl
      · have : k = n := by omega
        subst this
        have HE : Hid (xs = ys) := Lib.hid (eq_of_blk (by omega) fun j hj => H.out j (by omega))
        clear hx hy lx ly
        go_wp2
        go_ret
        refine ⟨?_, q, rfl⟩
        rw [decide_eq_true HE.out]; rfl
  · have HE : Hid (xs ≠ ys) := Lib.hid fun e => hnm (by rw [← lx, ← ly, e])
    have hnm' : ¬ (n : Int) = (m : Int) := by omega
    clear hx hy lx ly hnm
    go_enter Try.func29, Try.ntmps29
    go_wp2
    go_ret
    refine ⟨?_, 0, rfl⟩
    rw [decide_eq_false HE.out]; rfl


theorem neqW_run (x y : Int) (s t : ByteArray) (W : World) : (binOp .neq 51 (.agg #[.int .i64 x, .string s]) (.agg #[.int .i64 y, .string t])).run Try.prog W = .ok (.bool (!(x == y && s.toList == t.toList))) W := by
  have u3 := Try.underlying3
  have a3 := Try.isAgg3
  have z3 := Try.sizeOf3
  have u9 := Try.underlying9
  have a9 := Try.isAgg9
  have z9 := Try.sizeOf9
  have hS : Try.prog.underlying 51 = some (.struct (Try.prog.fieldsOf 51)) := by kernel_rfl
  have hp : Try.prog.stoodInHeld 51 = false := by kernel_rfl
  rw [run_neq_struct, show (10000 : Nat) = 9999 + 1 from rfl, run_equalIn_agg W 9999 51 _ _ hS hp]
  simp only [Program.fieldsOf, Try.underlying51]
  go_simp
  cases h1 : (x == y) <;> cases h2 : (s.toList == t.toList) <;> simp_all
theorem neqW_same {x y : Int} {s t : ByteArray} (h : x = y ∧ s = t) : ∀ W, (binOp .neq 51 (.agg #[.int .i64 x, .string s]) (.agg #[.int .i64 y, .string t])).run Try.prog W = .ok (.bool false) W := fun W => by
  rw [neqW_run, h.1, bytes_same h.2]; simp
theorem neqW_other {x y : Int} {s t : ByteArray} (h : ¬ (x = y ∧ s = t)) : ∀ W, (binOp .neq 51 (.agg #[.int .i64 x, .string s]) (.agg #[.int .i64 y, .string t])).run Try.prog W = .ok (.bool true) W := fun W => by
  rw [neqW_run]
  by_cases hx : x = y
  · rw [bytes_other (fun e => h ⟨hx, e⟩)]; simp
  · rw [show (x == y) = false by simpa using hx]; simp

set_option maxHeartbeats 2000000 in
set_option maxRecDepth 100000 in
theorem equalW_any (A A' : Option Addr) (n c m c' : Nat) (xs ys : List (Int × ByteArray)) (w : World) (B B' : Nat) (hx : Reads w B 2 A n (encW xs)) (hy : Reads w B' 2 A' m (encW ys)) (hn : n ≤ maxLen) (hm : m ≤ maxLen) :
    Calls Try.prog 30 #[.slice A n c, .slice A' m c'] w fun e w' => e = .returned (.bool (decide (xs = ys))) ∧ ∃ q, w' = w.drewN q := by
  unfold maxLen at hn hm
  have lx := hx.lenW
  have ly := hy.lenW
  by_cases hnm : n = m
  · subst hnm
    go_enter Try.func30, Try.ntmps30
    go_wp2
    go_loopg [13] n (fun g s13 wr => ∃ k q : Nat, k ≤ n ∧ n - k ≤ g ∧ s13 = .int .i64 k ∧ wr = w.drewN q ∧ Hid (∀ j, j < k → wAt xs j = wAt ys j ∧ wDat xs j = wDat ys j))
    case atStart => exact ⟨0, 0, Nat.zero_le _, by omega, rfl, rfl, Lib.hid fun j hj => absurd hj (Nat.not_lt_zero _)⟩
    case round =>
      obtain ⟨k, q, hk, hg, rfl, rfl, H⟩ := hrel
      by_cases hlt : k < n
      · obtain ⟨b1, o1, rfl, _, g1, f1⟩ := hx.wr hlt
        obtain ⟨b2, o2, rfl, _, g2, f2⟩ := hy.wr hlt
        have HX := Lib.hid hx; have HY := Lib.hid hy; have LX := Lib.hid lx; have LY := Lib.hid ly
        clear hx hy lx ly
        generalize hxk : wAt xs k = x at g1
        generalize hyk : wAt ys k = y at g2
        generalize hsk : wDat xs k = s at f1
        generalize htk : wDat ys k = t at f2
        have Bk : Hid (wAt xs k = x ∧ wAt ys k = y ∧ wDat xs k = s ∧ wDat ys k = t) := Lib.hid ⟨hxk, hyk, hsk, htk⟩
        clear hxk hyk hsk htk
        have hgd := fun op a b W => run_eqGuard_agg (P := Try.prog) W op 51 a b #[.int .i64 x, .string s] #[.int .i64 y, .string t] (by kernel_rfl)
        have hk1 : (k : Int) < (n : Int) := by omega
        by_cases hxy : x = y ∧ s = t
        · have ht := neqW_same hxy
          have HXY := Lib.hid hxy; clear hxy
          go_wp2_with fail
          go_quiet (fail)
          go_wp2
          go_roundg (n - (k + 1))
          case measure => omega
          case rel =>
            refine ⟨k + 1, q + nq, by omega, by omega, by go_num, rfl, Lib.hid fun j hj => ?_⟩
            by_cases e : j = k
            · subst e
              rw [Bk.out.1, Bk.out.2.1, Bk.out.2.2.1, Bk.out.2.2.2]; exact HXY.out
            · exact H.out j (by omega)
        · have ht := neqW_other hxy
          have HXY := Lib.hid hxy; clear hxy
          go_wp2_with fail
          go_quiet (fail)
          go_wp2
          go_ret
          refine ⟨?_, q + nq, World.drewN_drewN ..⟩
          rw [decide_eq_false (ne_of_wr (k := k) (by rw [Bk.out.1, Bk.out.2.1, Bk.out.2.2.1, Bk.out.2.2.2]; exact HXY.out))]; rfl
      · have : k = n := by omega
        subst this
        have HE : Hid (xs = ys) := Lib.hid (eq_of_wr (by omega) fun j hj => H.out j (by omega))
        clear hx hy lx ly
        go_wp2
        go_ret
        refine ⟨?_, q, rfl⟩
        rw [decide_eq_true HE.out]; rfl
  · have HE : Hid (xs ≠ ys) := Lib.hid fun e => hnm (by rw [← lx, ← ly, e])
    have hnm' : ¬ (n : Int) = (m : Int) := by omega
    clear hx hy lx ly hnm
    go_enter Try.func30, Try.ntmps30
    go_wp2
    go_ret
    refine ⟨?_, 0, rfl⟩
    rw [decide_eq_false HE.out]; rfl

end Go.Proofs.Ytmkhffopmohdhaa
