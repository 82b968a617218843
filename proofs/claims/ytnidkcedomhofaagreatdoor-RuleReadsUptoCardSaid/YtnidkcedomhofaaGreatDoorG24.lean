/-
  The program's own functions of layer 14: the method that reads a day of the week.
-/
import Derived.Test.YtnidkcedomhofaaGreatDoorG22
import Derived.Test.YtnidkcedomhofaaGreatDoorG23
namespace Go.Proofs.YtnidkcedomhofaaGreatDoor
open Go.RowKit
attribute [local go_sem] Oper.semAt_some

theorem whole (s : ByteArray) : s.extract 0 s.size = s := by simp
theorem tailV (s : ByteArray) (k : Nat) (_hk : k ≤ s.size) : (s.extract k s.size).data.toList = s.data.toList.drop k := by
  rw [pieceB, List.take_of_length_le]
  rw [List.length_drop, listB]
  omega
theorem headV (s : ByteArray) (k : Nat) : (s.extract 0 k).data.toList = s.data.toList.take k := by rw [pieceB]; simp
set_option maxRecDepth 100000 in
set_option maxHeartbeats 8000000 in
theorem m_day (s : ByteArray) (hs : s.size ≤ 1048576) (K n : Nat) (r : RuV) (sn : List (List UInt8)) (W : World) (hK : K < n) (hn : n ≤ W.heap.size) (hl : lenR r ≤ 100000000) (hv : VV W) (h : Rd K n r sn W) :
    Calls Tryz.prog 90 #[.pointer (some ⟨K, 0, none⟩), .string s] W (RdAns 6 K n r sn s.data.toList W) := by
  obtain ⟨v1, v2, v3, v4, v5, hB, hR⟩ := h
  have hmo : Tryz.prog.follows .mixedOrders = true := by kernel_rfl
  have hlen : r.dys.length ≤ 100000000 := by unfold lenR at hl; omega
  obtain ⟨i0, hi, hz0, hz1, hz2⟩ := info_parts infoWd
  have hls := Lib.hid (bsize s)
  have HB := Lib.hid hB
  have HR := Lib.hid hR
  have hlt := hB.lt
  have h3 : ∀ j, some j = v3.ownBlock → j < W.heap.size := fun j ej => by
    rcases own_nil_or hR.o3 with e | ⟨g, cap, e, hg, _, hlt⟩
    · rw [e] at ej; simp [Value.ownBlock] at ej
    · rw [hg] at ej; injection ej with ej; omega
  have fin : ∀ (W3 w1 : World) (tmp : Obj) (N D : Int) (b : Bool) (g' cap' : Nat), Below W.heap.size W W3 → readK 6 r s.data.toList = (if b = true then some { r with dys := r.dys ++ [(N, D)] } else none) →
      w1.ownsRow n 57 2 (.slice (some ⟨g', 0, none⟩) (r.dys.length + 1) cap') (r.dys.length + 1) (wdC r.dys ++ [.int .i64 N, .int .i64 D]) → (W3.alloc tmp).grownBy w1 v3.ownBlock →
      RdAns 6 K n r sn s.data.toList W (.returned (.bool b)) (w1.setCell ⟨K, 9, none⟩ (.slice (some ⟨g', 0, none⟩) (r.dys.length + 1) cap')) := by
    intro W3 w1 tmp N D b g' cap' hb hA ho hg
    have hn3 : n ≤ W3.heap.size := by have := hb.size; omega
    have hR3 := hR.below hb
    refine ⟨b, { r with dys := r.dys ++ [(N, D)] }, rfl, (Ch.of_below (by omega) hn hb).trans ((Ch.append (by omega) hn3 hR3.o3 hg).trans (Ch.set _ _ _)), (KS.of_below hb).trans ((KS.append (by first | exact .inl rfl | exact .inr rfl) hR3.o3 hg).trans (KS.set ((hB.step hb).append hK hn3 hR3.o3 hg) _ _)), ⟨v1, v2, _, v4, v5, ((hB.step hb).append hK hn3 hR3.o3 hg).set (j := 9) (by simp [rdA]) _, (hR3.app3 (N, D) ho hg).set hK _⟩, hA⟩
  have FIN := Lib.hid fin
  have H3 := Lib.hid h3
  clear hB hR hl fin h3
  by_cases h2 : s.size ≤ 2
  · have cd := dayOf_any s W hv
    have hmx : max (0 : Int) ((s.size : Int) - 2) = 0 := by omega
    have hex := whole s
    have HA : readK 6 r s.data.toList = (if dayL s.data.toList < 0 then none else some { r with dys := r.dys ++ [(0, dayL s.data.toList)] }) := by
      unfold readK wdL
      simp only
      rw [← hls.out, show s.size - 2 = 0 by omega, List.drop_zero]
      by_cases hd : dayL s.data.toList < 0
      · rw [if_pos hd, if_pos hd]
      · rw [if_neg hd, if_pos h2, if_neg hd]
    have HA := Lib.hid HA
    generalize dayL s.data.toList = D at cd HA
    have HA : Hid (readK 6 r s.data.toList = (if decide (0 ≤ D) = true then some { r with dys := r.dys ++ [(0, D)] } else none)) := Lib.hid (by
      rw [HA.out]
      by_cases hz : 0 ≤ D
      · rw [if_pos (decide_eq_true hz), if_neg (by omega)]
      · rw [decide_eq_false hz, if_pos (by omega)]; rfl)
    have hb2 : Below W.heap.size W (W.alloc (.cells #[.int .i64 0, .int .i64 D] 57)) := (Below.refl _ W).alloc (Nat.le_refl _) _
    have x0 : (W.alloc (.cells #[.int .i64 0, .int .i64 D] 57)).cell? ⟨W.heap.size, 0, none⟩ = some (.int .i64 0) := by simp
    have x1 : (W.alloc (.cells #[.int .i64 0, .int .i64 D] 57)).cell? ⟨W.heap.size, 1, none⟩ = some (.int .i64 D) := by simp
    have hsz2 : (W.alloc (.cells #[.int .i64 0, .int .i64 D] 57)).heap.size = W.heap.size + 1 := by simp
    go_enter Tryz.func90, Tryz.ntmps90
    go_upto_region 6 with (go_at_call 119; refine cd.mono ?_; rintro e w' ⟨rfl, hw⟩; subst w'; clear cd)
    have hK2 : ¬ K = W.heap.size := by omega
    have HGK : ¬ W.heap.size = K := by omega
    generalize W.alloc (.cells #[.int .i64 0, .int .i64 D] 57) = W2 at hb2 x0 x1 hsz2 ⊢
    have c9 : W2.cell? ⟨K, 9, none⟩ = some v3 := (HB.out.step hb2).cell (j := 9) rfl
    have hal : Below W2.heap.size W2 (W2.alloc (.cells #[.int .i64 0, .int .i64 D] 57)).drew := ((Below.refl _ W2).alloc (Nat.le_refl _) _).drew
    have hKW2 : K < W2.heap.size := by omega
    have hGW2 : W.heap.size < W2.heap.size := by omega
    have X := Lib.hid (And.intro c9 (And.intro x0 x1))
    have HB2 := Lib.hid hb2
    clear c9 x0 x1 hb2 hsz2
    refine wp_region_till (fun _ => True) 999 13 hmo (by kernel_rfl) ?_
    have HS : Below W2.heap.size W2 W2.drew := (Below.refl _ _).drew
    refine till_any (i := 0) _ (.pointer (some ⟨K, 0, none⟩)) rfl (by kernel_rfl) (by kernel_rfl) (by kernel_rfl) (fun _ _ _ h => h) (.inl ⟨by rfl, fun w' hS => ?_⟩) ?_
    · go_simp
    try simp only [Act.put, List.setIfInBounds_toArray]
    refine till_weak (S := fun w' => Below W2.heap.size W2 w') (k := 8) ?_
    refine till_take (i := 1) _ (.pointer (some ⟨K, 0, none⟩)) [5, 4, 3, 2, 1] rfl (by kernel_rfl) (by kernel_rfl) (by kernel_rfl) (by kernel_rfl) (fun _ _ _ h => h) (.inl ⟨by rfl, fun w' hS => ?_⟩) HS ?_
    · go_simp
    try simp only [Act.put]
    refine till_take (i := 2) _ (.pointer (some ⟨K, 0, none⟩)) [5, 4, 3, 2] rfl (by kernel_rfl) (by kernel_rfl) (by kernel_rfl) (by kernel_rfl) (fun _ _ _ h => h) (.inl ⟨by rfl, fun w' hS => ?_⟩) HS ?_
    · go_simp
    try simp only [Act.put]
    refine till_take (i := 3) _ (.pointer (some ⟨K, 0, none⟩)) [5, 4, 3] rfl (by kernel_rfl) (by kernel_rfl) (by kernel_rfl) (by kernel_rfl) (fun _ _ _ h => h) (.inl ⟨by rfl, fun w' hS => ?_⟩) HS ?_
    · go_simp
    try simp only [Act.put]
    refine till_take (i := 4) _ (.pointer (some ⟨K, 9, none⟩)) [5, 4] rfl (by kernel_rfl) (by kernel_rfl) (by kernel_rfl) (by kernel_rfl) (fun _ _ _ h => h) (.inl ⟨by rfl, fun w' hS => ?_⟩) HS ?_
    · go_simp
    try simp only [Act.put]
    refine till_take (i := 5) _ (v3) [5] rfl (by kernel_rfl) (by kernel_rfl) (by kernel_rfl) (by kernel_rfl) (fun _ _ _ h => h) (.inl ⟨by rfl, fun w' hS => ?_⟩) HS ?_
    · have q := (hS.cell (p := ⟨K, 9, none⟩) hKW2).trans X.out.1
      go_simp
    try simp only [Act.put]
    refine till_take (i := 6) _ (.agg #[.int .i64 0, .int .i64 D]) [7, 6] rfl (by kernel_rfl) (by kernel_rfl) (by kernel_rfl) (by kernel_rfl) (fun _ _ _ h => h) (.inl ⟨by rfl, fun w' hS => ?_⟩) HS ?_
    · have q0 := (hS.cell (p := ⟨W.heap.size, 0, none⟩) hGW2).trans X.out.2.1
      have q1 := (hS.cell (p := ⟨W.heap.size, 1, none⟩) hGW2).trans X.out.2.2
      go_simp
    try simp only [Act.put]
    refine till_one (i := 7) _ (by kernel_rfl) rfl rfl (fun K0 hK0 => ?_)
    go_simp
    refine hK0.out _ _ (fun _ _ => hal) ?_
    try simp only [Act.put, List.setIfInBounds_toArray, List.set_cons_zero, List.set_cons_succ]
    clear hK0 K0 HS
    refine till_one (i := 8) _ (by kernel_rfl) rfl rfl (fun K0 hK0 => ?_)
    have HR4 := Lib.hid (HR.out.below (HB2.out.trans (hal.mono (by omega))))
    refine oper_append_own_at _ _ _ 25 rfl n 57 i0 (.agg #[.int .i64 0, .int .i64 0]) 2 16 Tryz.underlying25 hi hz0 hz1 hz2 rfl (by decide) v3 r.dys.length (wdC r.dys) rfl HR4.out.o3 ⟨W2.heap.size, 0, none⟩ 1 1 [.int .i64 0, .int .i64 D] rfl rfl (cells_newV W2 [.int .i64 0, .int .i64 D] _) (by simp [Value.oneCell']) (by unfold maxLen; omega) (by omega) (by have := hal.size; omega) ?_
    intro v' w1 hown' hgrow hat
    obtain ⟨g', cap', rfl⟩ := ownsRow_succ hown'
    refine hK0.out _ _ (fun h _ => absurd rfl h) ?_
    try simp only [Act.put, List.setIfInBounds_toArray]
    clear hK0 K0
    refine till_switch (by kernel_rfl) ?_
    have hb3 : Below W.heap.size W W2.drew := HB2.out.drew
    have hgrow2 : (W2.drew.alloc (.cells #[.int .i64 0, .int .i64 D] 57)).grownBy w1 v3.ownBlock := hgrow
    have hB1 := (HB.out.step hb3).append hK (Nat.le_trans hn hb3.size) (HR.out.below hb3).o3 hgrow2
    have d9 : w1.cell? ⟨K, 9, none⟩ = some v3 := hB1.cell (j := 9) rfl
    have f9 := hB1.frozen 9
    have z1 : w1.cell? ⟨W.heap.size, 1, none⟩ = some (.int .i64 D) := (World.cell?_of_block (a := ⟨W.heap.size, 1, none⟩) ((hgrow.block W.heap.size (by have := hal.size; omega) (fun ej => by have := H3.out W.heap.size ej; omega)).trans (hal.block W.heap.size hGW2))).trans X.out.2.2
    have HQ := Lib.hid (And.intro hb3 (And.intro hown' hgrow2))
    clear hB1 hown' hgrow hgrow2 hat hb3 hal
    refine till_any (i := 9) _ (.pointer (some ⟨K, 0, none⟩)) rfl (by kernel_rfl) (by kernel_rfl) (by kernel_rfl) (fun _ _ _ h => h) (.inl ⟨by rfl, fun w' hS => ?_⟩) ?_
    · go_simp
    try simp only [Act.put]
    refine till_any (i := 10) _ (.pointer (some ⟨K, 0, none⟩)) rfl (by kernel_rfl) (by kernel_rfl) (by kernel_rfl) (fun _ _ _ h => h) (.inl ⟨by rfl, fun w' hS => ?_⟩) ?_
    · go_simp
    try simp only [Act.put]
    refine till_any (i := 11) _ (.pointer (some ⟨K, 9, none⟩)) rfl (by kernel_rfl) (by kernel_rfl) (by kernel_rfl) (fun _ _ _ h => h) (.inl ⟨by rfl, fun w' hS => ?_⟩) ?_
    · go_simp
    try simp only [Act.put]
    refine till_one (i := 12) _ (by kernel_rfl) rfl rfl (fun K0 hK0 => ?_)
    go_simp
    refine hK0.out _ _ (fun _ _ => trivial) ?_
    try simp only [Act.put, List.setIfInBounds_toArray, List.set_cons_zero, List.set_cons_succ]
    clear hK0 K0
    refine till_done (by kernel_rfl) ?_
    go_wp2
    go_ret
    exact FIN.out W2.drew w1 _ 0 D _ _ _ HQ.out.1 HA.out HQ.out.2.1 HQ.out.2.2
  · have cd := dayOf_any (s.extract (s.size - 2) s.size) W hv
    rw [tailV s (s.size - 2) (by omega)] at cd
    have ce := fun w => either14_any (s.extract 0 (s.size - 2)) (by rw [ByteArray.size_extract]; omega) 53 (by omega) w
    rw [headV s (s.size - 2)] at ce
    have hat : max (0 : Int) ((s.size : Int) - 2) = ((s.size - 2 : Nat) : Int) := by omega
    have hlx := hls.out
    have HA : readK 6 r s.data.toList = (if dayL (s.data.toList.drop (s.size - 2)) < 0 then none else if eitL (s.data.toList.take (s.size - 2)) 53 = 0 then none else some { r with dys := r.dys ++ [(eitL (s.data.toList.take (s.size - 2)) 53, dayL (s.data.toList.drop (s.size - 2)))] }) := by
      unfold readK wdL
      simp only
      rw [← hlx]
      by_cases hd : dayL (s.data.toList.drop (s.size - 2)) < 0
      · rw [if_pos hd, if_pos hd]
      · rw [if_neg hd, if_neg h2, if_neg hd]
        by_cases he : eitL (s.data.toList.take (s.size - 2)) 53 = 0
        · rw [if_pos he, if_pos he]
        · rw [if_neg he, if_neg he]
    have HA := Lib.hid HA
    clear hlx
    generalize dayL (s.data.toList.drop (s.size - 2)) = D at cd HA
    generalize eitL (s.data.toList.take (s.size - 2)) 53 = E at ce HA
    obtain ⟨p, hp⟩ : ∃ p, p = s.size - 2 := ⟨_, rfl⟩
    rw [← hp] at cd ce hat
    have hp0 : 0 < p := by omega
    have hpi : (0 : Int) < (p : Int) := by omega
    have hps : (p : Int) ≤ (s.size : Int) := by omega
    have hp1 : (p : Int) ≤ 1048576 := by omega
    have hpn : p ≤ s.size := by omega
    generalize hok : decide (E ≠ 0) = ok at ce
    have HA : ∀ N : Int, (E ≠ 0 → N = E) → readK 6 r s.data.toList = (if (ok && decide (0 ≤ D)) = true then some { r with dys := r.dys ++ [(N, D)] } else none) := by
      intro N hN
      rw [HA.out, ← hok]
      by_cases hz : 0 ≤ D
      · rw [if_neg (by omega)]
        by_cases he : E = 0
        · simp [he]
        · rw [if_neg he, hN he]; simp [he, hz]
      · rw [if_pos (by omega)]; simp [hz]
    have HA := Lib.hid HA
    have HP := Lib.hid hp
    clear hok hp h2
    cases ok
    all_goals
      go_enter Tryz.func90, Tryz.ntmps90
      go_upto_region 6 with (first
        | (go_at_call 119; refine cd.mono ?_; rintro e w' ⟨rfl, hw⟩; subst w'; clear cd)
        | (go_at_call 118; refine (ce _).mono ?_; rintro e w' ⟨N, rfl, hN, hw⟩; subst w'; clear ce))
      have HN := Lib.hid (HA.out N hN)
      clear hN
      have hb2 : Below W.heap.size W (W.alloc (.cells #[.int .i64 N, .int .i64 D] 57)) := (Below.refl _ W).alloc (Nat.le_refl _) _
      have x0 : (W.alloc (.cells #[.int .i64 N, .int .i64 D] 57)).cell? ⟨W.heap.size, 0, none⟩ = some (.int .i64 N) := by simp
      have x1 : (W.alloc (.cells #[.int .i64 N, .int .i64 D] 57)).cell? ⟨W.heap.size, 1, none⟩ = some (.int .i64 D) := by simp
      have hsz2 : (W.alloc (.cells #[.int .i64 N, .int .i64 D] 57)).heap.size = W.heap.size + 1 := by simp
      have hK2 : ¬ K = W.heap.size := by omega
      have HGK : ¬ W.heap.size = K := by omega
      generalize W.alloc (.cells #[.int .i64 N, .int .i64 D] 57) = W2 at hb2 x0 x1 hsz2 ⊢
      have c9 : W2.cell? ⟨K, 9, none⟩ = some v3 := (HB.out.step hb2).cell (j := 9) rfl
      have hal : Below W2.heap.size W2 (W2.alloc (.cells #[.int .i64 N, .int .i64 D] 57)).drew := ((Below.refl _ W2).alloc (Nat.le_refl _) _).drew
      have hKW2 : K < W2.heap.size := by omega
      have hGW2 : W.heap.size < W2.heap.size := by omega
      have X := Lib.hid (And.intro c9 (And.intro x0 x1))
      have HB2 := Lib.hid hb2
      clear c9 x0 x1 hb2 hsz2
      refine wp_region_till (fun _ => True) 999 13 hmo (by kernel_rfl) ?_
      have HS : Below W2.heap.size W2 W2.drew := (Below.refl _ _).drew
      refine till_any (i := 0) _ (.pointer (some ⟨K, 0, none⟩)) rfl (by kernel_rfl) (by kernel_rfl) (by kernel_rfl) (fun _ _ _ h => h) (.inl ⟨by rfl, fun w' hS => ?_⟩) ?_
      · go_simp
      try simp only [Act.put, List.setIfInBounds_toArray]
      refine till_weak (S := fun w' => Below W2.heap.size W2 w') (k := 8) ?_
      refine till_take (i := 1) _ (.pointer (some ⟨K, 0, none⟩)) [5, 4, 3, 2, 1] rfl (by kernel_rfl) (by kernel_rfl) (by kernel_rfl) (by kernel_rfl) (fun _ _ _ h => h) (.inl ⟨by rfl, fun w' hS => ?_⟩) HS ?_
      · go_simp
      try simp only [Act.put]
      refine till_take (i := 2) _ (.pointer (some ⟨K, 0, none⟩)) [5, 4, 3, 2] rfl (by kernel_rfl) (by kernel_rfl) (by kernel_rfl) (by kernel_rfl) (fun _ _ _ h => h) (.inl ⟨by rfl, fun w' hS => ?_⟩) HS ?_
      · go_simp
      try simp only [Act.put]
      refine till_take (i := 3) _ (.pointer (some ⟨K, 0, none⟩)) [5, 4, 3] rfl (by kernel_rfl) (by kernel_rfl) (by kernel_rfl) (by kernel_rfl) (fun _ _ _ h => h) (.inl ⟨by rfl, fun w' hS => ?_⟩) HS ?_
      · go_simp
      try simp only [Act.put]
      refine till_take (i := 4) _ (.pointer (some ⟨K, 9, none⟩)) [5, 4] rfl (by kernel_rfl) (by kernel_rfl) (by kernel_rfl) (by kernel_rfl) (fun _ _ _ h => h) (.inl ⟨by rfl, fun w' hS => ?_⟩) HS ?_
      · go_simp
      try simp only [Act.put]
      refine till_take (i := 5) _ (v3) [5] rfl (by kernel_rfl) (by kernel_rfl) (by kernel_rfl) (by kernel_rfl) (fun _ _ _ h => h) (.inl ⟨by rfl, fun w' hS => ?_⟩) HS ?_
      · have q := (hS.cell (p := ⟨K, 9, none⟩) hKW2).trans X.out.1
        go_simp
      try simp only [Act.put]
      refine till_take (i := 6) _ (.agg #[.int .i64 N, .int .i64 D]) [7, 6] rfl (by kernel_rfl) (by kernel_rfl) (by kernel_rfl) (by kernel_rfl) (fun _ _ _ h => h) (.inl ⟨by rfl, fun w' hS => ?_⟩) HS ?_
      · have q0 := (hS.cell (p := ⟨W.heap.size, 0, none⟩) hGW2).trans X.out.2.1
        have q1 := (hS.cell (p := ⟨W.heap.size, 1, none⟩) hGW2).trans X.out.2.2
        go_simp
      try simp only [Act.put]
      refine till_one (i := 7) _ (by kernel_rfl) rfl rfl (fun K0 hK0 => ?_)
      go_simp
      refine hK0.out _ _ (fun _ _ => hal) ?_
      try simp only [Act.put, List.setIfInBounds_toArray, List.set_cons_zero, List.set_cons_succ]
      clear hK0 K0 HS
      refine till_one (i := 8) _ (by kernel_rfl) rfl rfl (fun K0 hK0 => ?_)
      have HR4 := Lib.hid (HR.out.below (HB2.out.trans (hal.mono (by omega))))
      refine oper_append_own_at _ _ _ 25 rfl n 57 i0 (.agg #[.int .i64 0, .int .i64 0]) 2 16 Tryz.underlying25 hi hz0 hz1 hz2 rfl (by decide) v3 r.dys.length (wdC r.dys) rfl HR4.out.o3 ⟨W2.heap.size, 0, none⟩ 1 1 [.int .i64 N, .int .i64 D] rfl rfl (cells_newV W2 [.int .i64 N, .int .i64 D] _) (by simp [Value.oneCell']) (by unfold maxLen; omega) (by omega) (by have := hal.size; omega) ?_
      intro v' w1 hown' hgrow hat
      obtain ⟨g', cap', rfl⟩ := ownsRow_succ hown'
      refine hK0.out _ _ (fun h _ => absurd rfl h) ?_
      try simp only [Act.put, List.setIfInBounds_toArray]
      clear hK0 K0
      refine till_switch (by kernel_rfl) ?_
      have hb3 : Below W.heap.size W W2.drew := HB2.out.drew
      have hgrow2 : (W2.drew.alloc (.cells #[.int .i64 N, .int .i64 D] 57)).grownBy w1 v3.ownBlock := hgrow
      have hB1 := (HB.out.step hb3).append hK (Nat.le_trans hn hb3.size) (HR.out.below hb3).o3 hgrow2
      have d9 : w1.cell? ⟨K, 9, none⟩ = some v3 := hB1.cell (j := 9) rfl
      have f9 := hB1.frozen 9
      have z1 : w1.cell? ⟨W.heap.size, 1, none⟩ = some (.int .i64 D) := (World.cell?_of_block (a := ⟨W.heap.size, 1, none⟩) ((hgrow.block W.heap.size (by have := hal.size; omega) (fun ej => by have := H3.out W.heap.size ej; omega)).trans (hal.block W.heap.size hGW2))).trans X.out.2.2
      have HQ := Lib.hid (And.intro hb3 (And.intro hown' hgrow2))
      clear hB1 hown' hgrow hgrow2 hat hb3 hal
      refine till_any (i := 9) _ (.pointer (some ⟨K, 0, none⟩)) rfl (by kernel_rfl) (by kernel_rfl) (by kernel_rfl) (fun _ _ _ h => h) (.inl ⟨by rfl, fun w' hS => ?_⟩) ?_
      · go_simp
      try simp only [Act.put]
      refine till_any (i := 10) _ (.pointer (some ⟨K, 0, none⟩)) rfl (by kernel_rfl) (by kernel_rfl) (by kernel_rfl) (fun _ _ _ h => h) (.inl ⟨by rfl, fun w' hS => ?_⟩) ?_
      · go_simp
      try simp only [Act.put]
      refine till_any (i := 11) _ (.pointer (some ⟨K, 9, none⟩)) rfl (by kernel_rfl) (by kernel_rfl) (by kernel_rfl) (fun _ _ _ h => h) (.inl ⟨by rfl, fun w' hS => ?_⟩) ?_
      · go_simp
      try simp only [Act.put]
      refine till_one (i := 12) _ (by kernel_rfl) rfl rfl (fun K0 hK0 => ?_)
      go_simp
      refine hK0.out _ _ (fun _ _ => trivial) ?_
      try simp only [Act.put, List.setIfInBounds_toArray, List.set_cons_zero, List.set_cons_succ]
      clear hK0 K0
      refine till_done (by kernel_rfl) ?_
      go_wp2
      go_ret
      exact FIN.out W2.drew w1 _ N D _ _ _ HQ.out.1 HN.out HQ.out.2.1 HQ.out.2.2
end Go.Proofs.YtnidkcedomhofaaGreatDoor
