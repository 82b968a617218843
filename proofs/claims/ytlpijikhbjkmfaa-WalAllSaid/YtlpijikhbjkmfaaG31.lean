/-
  The reference's comparisons of texts and of numbers.
-/
import Derived.Test.YtlpijikhbjkmfaaG24
import Derived.Test.YtlpijikhbjkmfaaG25
namespace Go.Proofs.Ytlpijikhbjkmfaa
open Go.RowKit

theorem changedL_zero {a b : List ByteArray} (h : a.length = b.length) : (changedL a b).length = 0 ↔ a = b := by
  unfold changedL
  rw [List.length_eq_zero_iff, List.filter_eq_nil_iff]
  constructor
  · intro hall
    refine List.ext_getElem? fun i => ?_
    by_cases hi : i < a.length
    · have := hall i (List.mem_range.2 (by omega))
      simpa using this
    · rw [List.getElem?_eq_none (by omega), List.getElem?_eq_none (by omega)]
  · rintro rfl i _
    simp

set_option maxRecDepth 100000 in
set_option maxHeartbeats 1000000 in
theorem refTexts_any (A A' : Option Addr) (n c m c' : Nat) (a b : List ByteArray) (w : World) (ha : Reads w w.heap.size 1 A n (encS a)) (hb : Reads w w.heap.size 1 A' m (encS b)) (hn : n * 16 ≤ 140737488355328) (hm : m * 16 ≤ 140737488355328) :
    Calls Try.prog 14 #[.slice A n c, .slice A' m c'] w fun e w' => e = .returned (.bool (decide (a = b))) ∧ Below w.heap.size w w' := by
  have hla := ha.lenS
  have hlb := hb.lenS
  by_cases hnm : n = m
  · have ht : ((n : Int) == (m : Int)) = true := by rw [hnm]; exact beq_self_eq_true _
    have cc := refChanged_any A A' n c m c' a b w ha hb hn hm
    have HZ := Lib.hid (changedL_zero (a := a) (b := b) (by omega))
    obtain ⟨k, hk⟩ : ∃ k, k = (changedL a b).length := ⟨_, rfl⟩
    rw [← hk] at cc HZ
    by_cases hk0 : k = 0
    · have HD : Hid (decide (a = b) = true) := Lib.hid (decide_eq_true (HZ.out.1 hk0))
      rw [HD.out]
      have hk1 : ((k : Int) == 0) = true := by rw [hk0]; rfl
      clear ha hb hla hlb hnm hk hk0
      go_enter Try.func14, Try.ntmps14
      go_wp2_with (go_at_call 38; refine cc.mono ?_; rintro e w1 ⟨A2, c2, rfl, ho1, hb1⟩)
      go_ret
      exact ⟨rfl, hb1⟩
    · have HD : Hid (decide (a = b) = false) := Lib.hid (decide_eq_false (fun e => hk0 (HZ.out.2 e)))
      rw [HD.out]
      have hk1 : ((k : Int) == 0) = false := by rw [beq_eq_false_iff_ne]; omega
      clear ha hb hla hlb hnm hk
      go_enter Try.func14, Try.ntmps14
      go_wp2_with (go_at_call 38; refine cc.mono ?_; rintro e w1 ⟨A2, c2, rfl, ho1, hb1⟩)
      go_ret
      exact ⟨rfl, hb1⟩
  · have ht : ((n : Int) == (m : Int)) = false := by rw [beq_eq_false_iff_ne]; omega
    have HD : Hid (decide (a = b) = false) := Lib.hid (decide_eq_false (fun e => hnm (by rw [← hla, ← hlb, e])))
    rw [HD.out]
    clear ha hb hla hlb
    go_enter Try.func14, Try.ntmps14
    go_wp2
    go_ret
    exact ⟨rfl, Below.refl _ _⟩

end Go.Proofs.Ytlpijikhbjkmfaa

/-
  The reference's Home.
-/
namespace Go.Proofs.Ytlpijikhbjkmfaa
open Go.RowKit

set_option maxRecDepth 100000 in
set_option maxHeartbeats 1500000 in
theorem refHome_any (A A' : Option Addr) (n c m c' : Nat) (d : D) (x y : Int) (w : World) (h : Dv w w.heap.size A n A' m d) :
    Calls Try.prog 37 #[.agg #[.slice A n c, .slice A' m c', .int .i64 d.left, .bool d.dead], .int .i64 x, .int .i64 y] w fun e w' => ∃ A2 n2 c2, e = .returned (.tuple #[.slice A2 n2 c2, .int .i64 (homeD d x y).2]) ∧ Reads w' w'.heap.size 1 A2 n2 (encS (homeD d x y).1) ∧ n2 ≤ 512 ∧ Below w.heap.size w w' := by
  obtain ⟨i0, hi0, hz0, hz1, hz2⟩ := info_parts infoS
  have hmx : Try.prog.follows .mixedOrders = true := by kernel_rfl
  have hln := h.bs.lenS
  have hcw := refWrong_any A A' n c m c' d x y (w.alloc (.cells #[.slice A n c, .slice A' m c', .int .i64 d.left, .bool d.dead] 25)) (h.alloc _)
  have HD0 := Lib.hid (h.alloc (.cells #[.slice A n c, .slice A' m c', .int .i64 d.left, .bool d.dead] 25))
  have R0 := Lib.hid (B4.new w (.slice A n c) (.slice A' m c') (.int .i64 d.left) (.bool d.dead))
  obtain ⟨u, hu⟩ : ∃ u, u = homeD d x y := ⟨_, rfl⟩
  rw [← hu]
  have HU := Lib.hid hu
  have HLAY := Lib.hid (fun hh => lay_nat (x := x) (y := y) hh)
  have HW := Lib.hid (wrong_fits d x y n hln)
  clear hu h
  obtain ⟨x0, x1, x2, x3, xf⟩ := R0.out.cells
  by_cases h0 : wrongE d x y = 0
  · rw [h0] at hcw
    have hp3 : (layV x y).2.2.2 ≠ 0 := fun e => by
      have := HW.out
      rw [h0, e] at this
      unfold fitsE at this
      rw [if_pos rfl] at this
      exact absurd this (by decide)
    obtain ⟨h, g, rfl, rfl, hh1, hh2, gg1, gg2, hlay⟩ := HLAY.out hp3
    have hbl : d.bs.length = 1 + listsN h + g + h := by
      have h2 := HW.out
      rw [h0, hlay] at h2
      unfold fitsE at h2
      dsimp only at h2
      rw [if_neg (by omega)] at h2
      by_cases h3 : (n : Int) ≠ ((1 + listsN h + g + h : Nat) : Int)
      · rw [if_pos h3] at h2; exact absurd h2 (by decide)
      · omega
    have hl8 : listsN h ≤ 8 := by unfold listsN; omega
    have cl := fun W => refLists_any h hh2 W
    have HHL : Hid (∀ k, homeAt h g k = 1 + listsN h + g + k) := Lib.hid fun k => rfl
    have HUV : Hid (u = if d.dead = true then ([], 17) else (homeL d h g, 0)) := Lib.hid (by rw [HU.out]; unfold homeD; rw [if_neg (by rw [h0]; decide)]; rfl)
    obtain ⟨ln, hln2⟩ : ∃ ln, ln = listsN h := ⟨_, rfl⟩
    rw [← hln2] at cl hl8 hbl HHL
    obtain ⟨l1, hl1⟩ : ∃ l1, l1 = 1 + ln := ⟨_, rfl⟩
    obtain ⟨a, ha⟩ : ∃ a, a = 1 + ln + g := ⟨_, rfl⟩
    have s1 : (1 : Int) + (ln : Int) = (l1 : Int) := by omega
    have s2 : (l1 : Int) + (g : Int) = (a : Int) := by omega
    have hl19 : l1 ≤ 9 := by omega
    have ha2 : a ≤ 265 := by omega
    have v1 : IntKind.i64.wrap (l1 : Int) = (l1 : Int) := IntWalk.i64_in _ (by omega)
    have v2 : IntKind.i64.wrap (a : Int) = (a : Int) := IntWalk.i64_in _ (by omega)
    have HA := Lib.hid (And.intro ha (And.intro hbl hln))
    clear hlay h0 hbl hp3 hl1 ha hln2 hln
    go_enter Try.func37, Try.ntmps37
    go_wp2_with (go_at_call 32; refine hcw.mono ?_; rintro e w1 ⟨rfl, hb1⟩)
    have J0 : Hid (B4 w1 w.heap.size (.slice A n c) (.slice A' m c') (.int .i64 d.left) (.bool d.dead) ∧ Dv w1 w1.heap.size A n A' m d ∧ Below w.heap.size w w1) := Lib.hid ⟨R0.out.step hb1, HD0.out.step hb1, (alloc_below0 w _).trans (hb1.mono (by simp))⟩
    have hz1w : w.heap.size < w1.heap.size := by have := hb1.size; simp at this; omega
    clear hb1 hcw x0 x1 x2 x3 xf
    by_cases hd : d.dead = true
    · have HE : Hid (u = ([], 17)) := Lib.hid (HUV.out.trans (if_pos hd))
      have cr : ∀ W : World, Calls Try.prog 35 #[.agg #[.slice A n c, .slice A' m c', .int .i64 d.left, .bool d.dead], .int .i64 (a : Int)] W fun e w' => e = .returned (.tuple #[.string ⟨#[]⟩, .int .i64 17]) ∧ Below W.heap.size W w' := fun W => by rw [hd]; exact refRead_dead A A' n c m c' d.left (a : Int) W
      have hlt : (0 : Int) < (h : Int) := by omega
      clear hd
      go_loopg [9, 10] 1 (fun gk s9 s10 wr => s9 = .slice none 0 0 ∧ s10 = .int .i64 0 ∧ w1 = wr)
      case atStart => exact ⟨rfl, rfl, rfl⟩
      case round =>
        obtain ⟨rfl, rfl, rfl⟩ := hrel
        have R := Lib.hid J0.out.1
        obtain ⟨y0, y1, y2, y3, yf⟩ := R.out.cells
        go_wp2_with fail
        refine wp_region_till (fun w' => w'.cell? ⟨w.heap.size, 0, none⟩ = some (.slice A n c) ∧ w'.cell? ⟨w.heap.size, 1, none⟩ = some (.slice A' m c') ∧ w'.cell? ⟨w.heap.size, 2, none⟩ = some (.int .i64 d.left) ∧ w'.cell? ⟨w.heap.size, 3, none⟩ = some (.bool d.dead)) 13 14 hmx (by kernel_rfl) ?_
        have HS : (w1.drew).cell? ⟨w.heap.size, 0, none⟩ = some (.slice A n c) ∧ (w1.drew).cell? ⟨w.heap.size, 1, none⟩ = some (.slice A' m c') ∧ (w1.drew).cell? ⟨w.heap.size, 2, none⟩ = some (.int .i64 d.left) ∧ (w1.drew).cell? ⟨w.heap.size, 3, none⟩ = some (.bool d.dead) := ⟨y0, y1, y2, y3⟩
        clear y0 y1 y2 y3 yf
        refine till_take (i := 0) _ (.agg #[.slice A n c, .slice A' m c', .int .i64 d.left, .bool d.dead]) [0] rfl (by kernel_rfl) (by kernel_rfl) (by kernel_rfl) (by kernel_rfl) (fun _ _ _ h => h) (.inl ⟨by rfl, fun w' hS => ?_⟩) HS ?_
        · obtain ⟨x0, x1, x2, x3⟩ := hS; go_simp
        try simp only [Act.put, List.setIfInBounds_toArray]
        refine till_take (i := 1) _ (.int .i64 (h : Int)) [1] rfl (by kernel_rfl) (by kernel_rfl) (by kernel_rfl) (by kernel_rfl) (fun _ _ _ h => h) (.inl ⟨by rfl, fun w' hS => ?_⟩) HS ?_
        · obtain ⟨x0, x1, x2, x3⟩ := hS; go_simp
        try simp only [Act.put]
        refine till_take (i := 4) _ (.int .i64 (g : Int)) [4] rfl (by kernel_rfl) (by kernel_rfl) (by kernel_rfl) (by kernel_rfl) (fun _ _ _ h => h) (.inl ⟨by rfl, fun w' hS => ?_⟩) HS ?_
        · obtain ⟨x0, x1, x2, x3⟩ := hS; go_simp
        try simp only [Act.put]
        refine till_take (i := 6) _ (.int .i64 0) [6] rfl (by kernel_rfl) (by kernel_rfl) (by kernel_rfl) (by kernel_rfl) (fun _ _ _ h => h) (.inl ⟨by rfl, fun w' hS => ?_⟩) HS ?_
        · obtain ⟨x0, x1, x2, x3⟩ := hS; go_simp
        try simp only [Act.put]
        refine till_one (i := 2) _ (by kernel_rfl) rfl rfl (fun K hK => ?_)
        go_simp
        go_at_call 42
        refine (cl _).mono ?_
        rintro e w2 ⟨rfl, rfl⟩
        refine hK.out _ _ (fun _ _ => HS) ?_
        try simp only [Act.put, List.setIfInBounds_toArray, List.set_cons_zero, List.set_cons_succ]
        clear hK K
        refine till_take (i := 3) _ (.int .i64 (l1 : Int)) [3] rfl (by kernel_rfl) (by kernel_rfl) (by kernel_rfl) (by kernel_rfl) (fun _ _ _ h => h) (.inl ⟨by rfl, fun w' hS => ?_⟩) HS ?_
        · obtain ⟨x0, x1, x2, x3⟩ := hS; go_simp
        try simp only [Act.put, List.setIfInBounds_toArray]
        refine till_take (i := 5) _ (.int .i64 (a : Int)) [5] rfl (by kernel_rfl) (by kernel_rfl) (by kernel_rfl) (by kernel_rfl) (fun _ _ _ h => h) (.inl ⟨by rfl, fun w' hS => ?_⟩) HS ?_
        · obtain ⟨x0, x1, x2, x3⟩ := hS; go_simp
        try simp only [Act.put]
        refine till_take (i := 7) _ (.int .i64 (a : Int)) [7] rfl (by kernel_rfl) (by kernel_rfl) (by kernel_rfl) (by kernel_rfl) (fun _ _ _ h => h) (.inl ⟨by rfl, fun w' hS => ?_⟩) HS ?_
        · obtain ⟨x0, x1, x2, x3⟩ := hS; go_simp
        try simp only [Act.put]
        refine till_one (i := 8) _ (by kernel_rfl) rfl rfl (fun K hK => ?_)
        go_simp
        go_at_call 35
        refine (cr w1.drew).mono ?_
        rintro e w3 ⟨rfl, hb3⟩
        have hb13 : Below w1.heap.size w1 w3 := ((Below.refl _ _).drew).trans hb3
        have HB := Lib.hid (R.out.step hb13)
        have HS3 := (HB.out).cells
        clear HS
        have HS : w3.cell? ⟨w.heap.size, 0, none⟩ = some (.slice A n c) ∧ w3.cell? ⟨w.heap.size, 1, none⟩ = some (.slice A' m c') ∧ w3.cell? ⟨w.heap.size, 2, none⟩ = some (.int .i64 d.left) ∧ w3.cell? ⟨w.heap.size, 3, none⟩ = some (.bool d.dead) := ⟨HS3.1, HS3.2.1, HS3.2.2.1, HS3.2.2.2.1⟩
        clear HS3
        refine hK.out _ _ (fun _ _ => HS) ?_
        try simp only [Act.put, List.setIfInBounds_toArray, List.set_cons_zero, List.set_cons_succ]
        clear hK K
        refine till_one (i := 9) _ (by kernel_rfl) rfl rfl (fun K hK => ?_)
        go_simp
        refine hK.out _ _ (fun _ _ => HS) ?_
        try simp only [Act.put, List.setIfInBounds_toArray, List.set_cons_zero, List.set_cons_succ]
        clear hK K
        refine till_take (i := 10) _ (.string ⟨#[]⟩) [10] rfl (by kernel_rfl) (by kernel_rfl) (by kernel_rfl) (by kernel_rfl) (fun _ _ _ h => h) (.inl ⟨by rfl, fun w' hS => ?_⟩) HS ?_
        · obtain ⟨x0, x1, x2, x3⟩ := hS; go_simp
        try simp only [Act.put, List.setIfInBounds_toArray]
        refine till_take (i := 11) _ (.int .i64 17) [11] rfl (by kernel_rfl) (by kernel_rfl) (by kernel_rfl) (by kernel_rfl) (fun _ _ _ h => h) (.inl ⟨by rfl, fun w' hS => ?_⟩) HS ?_
        · obtain ⟨x0, x1, x2, x3⟩ := hS; go_simp
        try simp only [Act.put]
        refine till_one (i := 12) _ (by kernel_rfl) rfl rfl (fun K hK => ?_)
        go_simp
        refine hK.out _ _ (fun _ _ => HS) ?_
        try simp only [Act.put, List.setIfInBounds_toArray, List.set_cons_zero, List.set_cons_succ]
        clear hK K
        refine till_one (i := 13) _ (by kernel_rfl) rfl rfl (fun K hK => ?_)
        go_simp
        refine hK.out _ _ (fun h => absurd rfl h) ?_
        try simp only [Act.put, List.setIfInBounds_toArray, List.set_cons_zero, List.set_cons_succ]
        clear hK K
        refine till_done (by kernel_rfl) ?_
        go_wp2
        go_ret2
        rw [HE.out]
        exact ⟨none, 0, 0, rfl, Reads.nil, Nat.zero_le _, J0.out.2.2.trans (hb13.mono J0.out.2.2.size)⟩
    · have hdf : d.dead = false := by simpa using hd
      have HE : Hid (u = (homeL d h g, 0)) := Lib.hid (HUV.out.trans (if_neg hd))
      have HQ : Hid (∀ k, k < h → (readD d ((a + k : Nat) : Int)).2 = 0 ∧ ∀ W : World, Dv W W.heap.size A n A' m d → Calls Try.prog 35 #[.agg #[.slice A n c, .slice A' m c', .int .i64 d.left, .bool d.dead], .int .i64 ((a + k : Nat) : Int)] W fun e w' => e = .returned (.tuple #[.string (readD d ((a + k : Nat) : Int)).1, .int .i64 0]) ∧ Below W.heap.size W w') := Lib.hid fun k hk => by
        have hlt : a + k < d.bs.length := by rw [HA.out.2.1, HA.out.1]; omega
        refine ⟨readD_ok hdf hlt, fun W hW => ?_⟩
        have h1 := refRead_yes A A' n c m c' d d.left (a + k) W hW (by rw [← HA.out.2.2]; exact hlt)
        have e1 : (readD d ((a + k : Nat) : Int)).1 = lastTo d.cs ((a + k : Nat) : Int) (blk d.bs (a + k)) := by
          unfold readD
          rw [hdf, if_neg (by decide), if_pos ⟨by omega, by omega⟩]
          rfl
        rw [hdf, e1]
        exact h1
      have HLS : Hid (∀ k, (readL d a (k + 1)) = readL d a k ++ [(readD d ((a + k : Nat) : Int)).1]) := Lib.hid fun k => readL_succ d a k
      have HHE : Hid (homeL d h g = readL d a h) := Lib.hid (by unfold homeL readL; refine List.map_congr_left fun k _ => ?_; rw [HHL.out, HA.out.1])
      clear hd hdf
      go_loopg [9, 10] h (fun gk s9 s10 wr => ∃ (i : Nat) (A2 : Option Addr) (c2 : Nat), i ≤ h ∧ h - i ≤ gk ∧ s10 = .int .i64 i ∧ s9 = .slice A2 i c2 ∧ Hid (wr.ownsRow w1.heap.size 9 1 (.slice A2 i c2) i (encS (readL d a i)) ∧ Below w1.heap.size w1 wr))
      case atStart => exact ⟨0, none, 0, Nat.zero_le _, by omega, rfl, rfl, Lib.hid ⟨own_nil, Below.refl _ _⟩⟩
      case round =>
        obtain ⟨i, A2, c2, hi, hg, rfl, rfl, J⟩ := hrel
        by_cases hlt : i < h
        · have hin : (i : Int) < (h : Int) := by omega
          have R := Lib.hid (J0.out.1.step J.out.2)
          have V := Lib.hid (J0.out.2.1.step J.out.2)
          obtain ⟨y0, y1, y2, y3, yf⟩ := R.out.cells
          have cr := fun W hW => (HQ.out i hlt).2 W hW
          have HN := Lib.hid (HLS.out i)
          generalize (readD d ((a + i : Nat) : Int)).1 = s at cr HN
          obtain ⟨q, hq⟩ : ∃ q : Nat, q = a + i := ⟨_, rfl⟩
          rw [← hq] at cr
          have s3 : (a : Int) + (i : Int) = (q : Int) := by omega
          have v3 : IntKind.i64.wrap (q : Int) = (q : Int) := IntWalk.i64_in _ (by omega)
          have hq2 : q ≤ 1024 := by omega
          clear hq
          go_wp2_with fail
          refine wp_region_till (fun w' => w'.cell? ⟨w.heap.size, 0, none⟩ = some (.slice A n c) ∧ w'.cell? ⟨w.heap.size, 1, none⟩ = some (.slice A' m c') ∧ w'.cell? ⟨w.heap.size, 2, none⟩ = some (.int .i64 d.left) ∧ w'.cell? ⟨w.heap.size, 3, none⟩ = some (.bool d.dead)) 13 14 hmx (by kernel_rfl) ?_
          have HS : (wr.drew).cell? ⟨w.heap.size, 0, none⟩ = some (.slice A n c) ∧ (wr.drew).cell? ⟨w.heap.size, 1, none⟩ = some (.slice A' m c') ∧ (wr.drew).cell? ⟨w.heap.size, 2, none⟩ = some (.int .i64 d.left) ∧ (wr.drew).cell? ⟨w.heap.size, 3, none⟩ = some (.bool d.dead) := ⟨y0, y1, y2, y3⟩
          clear y0 y1 y2 y3 yf
          refine till_take (i := 0) _ (.agg #[.slice A n c, .slice A' m c', .int .i64 d.left, .bool d.dead]) [0] rfl (by kernel_rfl) (by kernel_rfl) (by kernel_rfl) (by kernel_rfl) (fun _ _ _ h => h) (.inl ⟨by rfl, fun w' hS => ?_⟩) HS ?_
          · obtain ⟨x0, x1, x2, x3⟩ := hS; go_simp
          try simp only [Act.put, List.setIfInBounds_toArray]
          refine till_take (i := 1) _ (.int .i64 (h : Int)) [1] rfl (by kernel_rfl) (by kernel_rfl) (by kernel_rfl) (by kernel_rfl) (fun _ _ _ h => h) (.inl ⟨by rfl, fun w' hS => ?_⟩) HS ?_
          · obtain ⟨x0, x1, x2, x3⟩ := hS; go_simp
          try simp only [Act.put]
          refine till_take (i := 4) _ (.int .i64 (g : Int)) [4] rfl (by kernel_rfl) (by kernel_rfl) (by kernel_rfl) (by kernel_rfl) (fun _ _ _ h => h) (.inl ⟨by rfl, fun w' hS => ?_⟩) HS ?_
          · obtain ⟨x0, x1, x2, x3⟩ := hS; go_simp
          try simp only [Act.put]
          refine till_take (i := 6) _ (.int .i64 (i : Int)) [6] rfl (by kernel_rfl) (by kernel_rfl) (by kernel_rfl) (by kernel_rfl) (fun _ _ _ h => h) (.inl ⟨by rfl, fun w' hS => ?_⟩) HS ?_
          · obtain ⟨x0, x1, x2, x3⟩ := hS; go_simp
          try simp only [Act.put]
          refine till_one (i := 2) _ (by kernel_rfl) rfl rfl (fun K hK => ?_)
          go_simp
          go_at_call 42
          refine (cl _).mono ?_
          rintro e w2 ⟨rfl, rfl⟩
          refine hK.out _ _ (fun _ _ => HS) ?_
          try simp only [Act.put, List.setIfInBounds_toArray, List.set_cons_zero, List.set_cons_succ]
          clear hK K
          refine till_take (i := 3) _ (.int .i64 (l1 : Int)) [3] rfl (by kernel_rfl) (by kernel_rfl) (by kernel_rfl) (by kernel_rfl) (fun _ _ _ h => h) (.inl ⟨by rfl, fun w' hS => ?_⟩) HS ?_
          · obtain ⟨x0, x1, x2, x3⟩ := hS; go_simp
          try simp only [Act.put, List.setIfInBounds_toArray]
          refine till_take (i := 5) _ (.int .i64 (a : Int)) [5] rfl (by kernel_rfl) (by kernel_rfl) (by kernel_rfl) (by kernel_rfl) (fun _ _ _ h => h) (.inl ⟨by rfl, fun w' hS => ?_⟩) HS ?_
          · obtain ⟨x0, x1, x2, x3⟩ := hS; go_simp
          try simp only [Act.put]
          refine till_take (i := 7) _ (.int .i64 (q : Int)) [7] rfl (by kernel_rfl) (by kernel_rfl) (by kernel_rfl) (by kernel_rfl) (fun _ _ _ h => h) (.inl ⟨by rfl, fun w' hS => ?_⟩) HS ?_
          · obtain ⟨x0, x1, x2, x3⟩ := hS; go_simp
          try simp only [Act.put]
          refine till_one (i := 8) _ (by kernel_rfl) rfl rfl (fun K hK => ?_)
          go_simp
          go_at_call 35
          refine (cr wr.drew (⟨V.out.bs, V.out.cs, V.out.hn, V.out.hm⟩)).mono ?_
          rintro e w3 ⟨rfl, hb3⟩
          have hb13 : Below wr.heap.size wr w3 := ((Below.refl _ _).drew).trans hb3
          have HB := Lib.hid (R.out.step hb13)
          have HS3 := (HB.out).cells
          clear HS
          have HS : w3.cell? ⟨w.heap.size, 0, none⟩ = some (.slice A n c) ∧ w3.cell? ⟨w.heap.size, 1, none⟩ = some (.slice A' m c') ∧ w3.cell? ⟨w.heap.size, 2, none⟩ = some (.int .i64 d.left) ∧ w3.cell? ⟨w.heap.size, 3, none⟩ = some (.bool d.dead) := ⟨HS3.1, HS3.2.1, HS3.2.2.1, HS3.2.2.2.1⟩
          clear HS3
          refine hK.out _ _ (fun _ _ => HS) ?_
          try simp only [Act.put, List.setIfInBounds_toArray, List.set_cons_zero, List.set_cons_succ]
          clear hK K
          refine till_one (i := 9) _ (by kernel_rfl) rfl rfl (fun K hK => ?_)
          go_simp
          refine hK.out _ _ (fun _ _ => HS) ?_
          try simp only [Act.put, List.setIfInBounds_toArray, List.set_cons_zero, List.set_cons_succ]
          clear hK K
          refine till_take (i := 10) _ (.string s) [10] rfl (by kernel_rfl) (by kernel_rfl) (by kernel_rfl) (by kernel_rfl) (fun _ _ _ h => h) (.inl ⟨by rfl, fun w' hS => ?_⟩) HS ?_
          · obtain ⟨x0, x1, x2, x3⟩ := hS; go_simp
          try simp only [Act.put, List.setIfInBounds_toArray]
          refine till_take (i := 11) _ (.int .i64 0) [11] rfl (by kernel_rfl) (by kernel_rfl) (by kernel_rfl) (by kernel_rfl) (fun _ _ _ h => h) (.inl ⟨by rfl, fun w' hS => ?_⟩) HS ?_
          · obtain ⟨x0, x1, x2, x3⟩ := hS; go_simp
          try simp only [Act.put]
          refine till_one (i := 12) _ (by kernel_rfl) rfl rfl (fun K hK => ?_)
          go_simp
          refine hK.out _ _ (fun _ _ => HS) ?_
          try simp only [Act.put, List.setIfInBounds_toArray, List.set_cons_zero, List.set_cons_succ]
          clear hK K
          refine till_one (i := 13) _ (by kernel_rfl) rfl rfl (fun K hK => ?_)
          go_simp
          refine hK.out _ _ (fun h => absurd rfl h) ?_
          try simp only [Act.put, List.setIfInBounds_toArray, List.set_cons_zero, List.set_cons_succ]
          clear hK K
          refine till_done (by kernel_rfl) ?_
          have J2 : Hid (w3.ownsRow w1.heap.size 9 1 (.slice A2 i c2) i (encS (readL d a i)) ∧ Below w1.heap.size w1 w3) := Lib.hid ⟨own_below J.out.1 hb13, bstep J.out.2 hb13⟩
          clear hb13 cr HS
          go_wp2_with (at_builtin; refine wpList_append_reads _ rfl (.tmp 40) (.tmp 42) 22 rfl w1.heap.size 9 i0 _ 1 16 Try.underlying22 hi0 hz0 hz1 hz2 rfl (by omega) (.slice A2 i c2) i (encS (readL d a i)) rfl (own_alloc J2.out.1 _) _ (some ⟨w3.heap.size, 0, none⟩) 1 1 [.string s] rfl (reads_new w3 #[.string s] 9 1 1 rfl) (by simp [Value.oneCell']) (by simp only [maxLen]; omega) (by omega) (by have := J2.out.2.size; simp; omega) ?_; intro A6 c6 w6 ho6 hg6 _)
          have JN : Hid (w6.ownsRow w1.heap.size 9 1 (.slice A6 (i + 1) c6) (i + 1) (encS (readL d a (i + 1))) ∧ Below w1.heap.size w1 w6) :=
            Lib.hid ⟨own_eq_vals ho6 (by rw [HN.out]; simp [encS]), (J2.out.2.alloc J2.out.2.size _).grown hg6 (by have := J2.out.2.size; simp; omega) (fun q hq => by have := own_row_ge J2.out.1 _ hq; omega)⟩
          clear ho6 hg6 J2
          go_roundg (h - (i + 1))
          case measure => omega
          case rel => exact ⟨i + 1, A6, c6, by omega, by omega, by go_num, rfl, JN⟩
        · have : i = h := by omega
          subst this
          have hnlt : ¬ (i : Int) < (i : Int) := by omega
          go_wp2
          go_ret2
          rw [HE.out]
          refine ⟨A2, i, ⟨c2, rfl⟩, ?_, hh2, J0.out.2.2.trans (J.out.2.mono J0.out.2.2.size)⟩
          show Reads _ _ 1 A2 i (encS (homeL d i g))
          rw [HHE.out]
          exact Reads.of_own J.out.1
  · have hw0 : (wrongE d x y != 0) = true := by simpa using h0
    have HE : Hid (u = ([], wrongE d x y)) := Lib.hid (by rw [HU.out]; unfold homeD; rw [if_pos h0])
    go_enter Try.func37, Try.ntmps37
    go_wp2_with (go_at_call 32; refine hcw.mono ?_; rintro e w1 ⟨rfl, hb1⟩)
    go_ret2
    rw [HE.out]
    exact ⟨none, 0, 0, rfl, Reads.nil, Nat.zero_le _, (alloc_below0 w _).trans (hb1.mono (by simp))⟩

end Go.Proofs.Ytlpijikhbjkmfaa
