/-
  Home: the program's function.
-/
import Derived.Test.YtlpijikhbjkmfaaG24
namespace Go.Proofs.Ytlpijikhbjkmfaa
open Go.RowKit

theorem readD_ok {d : D} (hd : d.dead = false) {i : Nat} (hi : i < d.bs.length) : (readD d (i : Int)).2 = 0 := by
  unfold readD
  rw [hd, if_neg (by decide), if_pos ⟨by omega, by omega⟩]
theorem readD_dead {d : D} (hd : d.dead = true) (i : Int) : (readD d i).2 = 17 := by
  unfold readD
  rw [hd, if_pos rfl]
theorem homeL_read (d : D) (h g : Nat) : homeL d h g = readL d (1 + listsN h + g) h := by
  unfold homeL readL homeAt
  rfl
theorem wrong_fits (d : D) (x y : Int) (n : Nat) (hn : d.bs.length = n) : wrongE d x y = fitsE (layV x y).2.2.2 n := by
  unfold wrongE fitsE
  rw [layV_end, hn]
/-- What the parts of a device are, where they may be. -/
theorem lay_nat {x y : Int} (h : (layV x y).2.2.2 ≠ 0) : ∃ h g : Nat, x = h ∧ y = g ∧ 1 ≤ h ∧ h ≤ 512 ∧ 1 ≤ g ∧ g ≤ 256 ∧ layV x y = (1, ((1 + listsN h : Nat) : Int), ((1 + listsN h + g : Nat) : Int), ((1 + listsN h + g + h : Nat) : Int)) := by
  by_cases hr : x < 1 ∨ 512 < x ∨ y < 1 ∨ 256 < y
  · rw [layV_no hr] at h
    exact absurd rfl h
  · refine ⟨x.toNat, y.toNat, by omega, by omega, by omega, by omega, by omega, by omega, ?_⟩
    rw [layV_yes hr]
    unfold listsN
    simp only [Prod.mk.injEq, true_and]
    omega

set_option maxRecDepth 100000 in
set_option maxHeartbeats 1500000 in
theorem homeP_any (A A' : Option Addr) (n c m c' : Nat) (d : D) (x y : Int) (w : World) (h : Dv w w.heap.size A n A' m d) :
    Calls Try.prog 11 #[.agg #[.slice A n c, .slice A' m c', .int .i64 d.left, .bool d.dead], .int .i64 x, .int .i64 y] w fun e w' => ∃ A2 n2 c2, e = .returned (.tuple #[.slice A2 n2 c2, .int .i64 (homeD d x y).2]) ∧ Reads w' w'.heap.size 1 A2 n2 (encS (homeD d x y).1) ∧ n2 ≤ 512 ∧ n2 ≤ c2 ∧ c2 ≤ maxLen ∧ Below w.heap.size w w' := by
  have hmx : Try.prog.follows .mixedOrders = true := by kernel_rfl
  have H := Lib.hid h
  have hln := h.bs.lenS
  have hbx := begin_any A A' n c m c' d x y (w.alloc (.cells #[.slice A n c, .slice A' m c', .int .i64 d.left, .bool d.dead] 25)) (h.alloc _)
  clear h
  obtain ⟨u, hu⟩ : ∃ u, u = homeD d x y := ⟨_, rfl⟩
  rw [← hu]
  have HU := Lib.hid hu
  have HLAY := Lib.hid (fun hh => lay_nat (x := x) (y := y) hh)
  have HW := Lib.hid (wrong_fits d x y n hln)
  clear hu
  go_enter Try.func11, Try.ntmps11
  go_wp2_with fail
  refine hbx.mono ?_
  rintro e w1 ⟨g, A2, c2, A2', c2', rfl, hg, hk, hb1⟩
  have K := Lib.hid hk
  have HB1 : Hid (Below w.heap.size w w1) := Lib.hid ((alloc_below0 w _).trans (hb1.mono (by simp)))
  have cf := fits_wk w1 g _ hk.blk
  have hp : (beginV (layV x y) A2 n c2 A2' m c2' d).p3 = (layV x y).2.2.2 := rfl
  have hvn : (beginV (layV x y) A2 n c2 A2' m c2' d).n = n := rfl
  rw [hp, hvn, ← HW.out] at cf
  clear hp hvn hk hb1 hbx hg
  by_cases h0 : wrongE d x y = 0
  · rw [h0] at cf
    have hp3 : (layV x y).2.2.2 ≠ 0 := fun e => by
      have := HW.out
      rw [h0, e] at this
      unfold fitsE at this
      rw [if_pos rfl] at this
      exact absurd this (by decide)
    obtain ⟨hh, gg, rfl, rfl, hh1, hh2, gg1, gg2, hlay⟩ := HLAY.out hp3
    have hbl : d.bs.length = 1 + listsN hh + gg + hh := by
      have h2 := HW.out
      rw [h0, hlay] at h2
      unfold fitsE at h2
      dsimp only at h2
      rw [if_neg (by omega)] at h2
      by_cases h3 : (n : Int) ≠ ((1 + listsN hh + gg + hh : Nat) : Int)
      · rw [if_pos h3] at h2; exact absurd h2 (by decide)
      · omega
    have hl8 : listsN hh ≤ 8 := by unfold listsN; omega
    obtain ⟨a, ha⟩ : ∃ a, a = 1 + listsN hh + gg := ⟨_, rfl⟩
    have ha2 : a ≤ 265 := by omega
    rw [← ha] at hlay hbl
    obtain ⟨q0, q1, q2, q3⟩ := K.out.blk.p
    have q2' : w1.cell? ⟨g, 2, none⟩ = some (.int .i64 (a : Int)) := by rw [q2]; show some (Value.int .i64 (layV hh gg).2.2.1) = _; rw [hlay]
    have q3' : w1.cell? ⟨g, 3, none⟩ = some (.int .i64 ((a + hh : Nat) : Int)) := by rw [q3]; show some (Value.int .i64 (layV hh gg).2.2.2) = _; rw [hlay]
    clear q0 q1 q2 q3 hp3
    obtain ⟨b, hb⟩ : ∃ b, b = a + hh := ⟨_, rfl⟩
    rw [← hb] at q3'
    by_cases hdead : d.dead = true
    · have hu17 : Hid (u = ([], 17)) := Lib.hid (by rw [HU.out]; unfold homeD; rw [if_neg (by rw [h0]; decide), if_pos hdead])
      have crd := fun W hW => read_dead_wk W g (beginV (layV hh gg) A2 n c2 A2' m c2' d) d [] [] [] hW a hh (by omega) (by omega) (by omega) 17 (by decide) (readD_dead hdead _)
      rw [← hb] at crd
      clear hlay h0 hbl hb ha hdead
      go_wp2_with fail
      refine cf.mono ?_
      rintro e w2 ⟨rfl, q, rfl⟩
      have K2 := Lib.hid (K.out.drewN q)
      go_wp2_with fail
      refine wp_region_till (fun w' => w'.cell? ⟨g, 2, none⟩ = some (.int .i64 (a : Int)) ∧ w'.cell? ⟨g, 3, none⟩ = some (.int .i64 (b : Int))) 15 16 hmx (by kernel_rfl) ?_
      have HS : ((w1.drewN q).drew).cell? ⟨g, 2, none⟩ = some (.int .i64 (a : Int)) ∧ ((w1.drewN q).drew).cell? ⟨g, 3, none⟩ = some (.int .i64 (b : Int)) := ⟨q2', q3'⟩
      refine till_take (i := 0) _ (.pointer (some ⟨g, 0, none⟩)) [0] rfl (by kernel_rfl) (by kernel_rfl) (by kernel_rfl) (by kernel_rfl) (fun _ _ _ h => h) (.inl ⟨by rfl, fun w' hS => ?_⟩) HS ?_
      · obtain ⟨x0, x1⟩ := hS; go_simp
      try simp only [Act.put, List.setIfInBounds_toArray]
      refine till_take (i := 1) _ (.pointer (some ⟨g, 0, none⟩)) [1] rfl (by kernel_rfl) (by kernel_rfl) (by kernel_rfl) (by kernel_rfl) (fun _ _ _ h => h) (.inl ⟨by rfl, fun w' hS => ?_⟩) HS ?_
      · obtain ⟨x0, x1⟩ := hS; go_simp
      try simp only [Act.put]
      refine till_take (i := 2) _ (.pointer (some ⟨g, 0, none⟩)) [2] rfl (by kernel_rfl) (by kernel_rfl) (by kernel_rfl) (by kernel_rfl) (fun _ _ _ h => h) (.inl ⟨by rfl, fun w' hS => ?_⟩) HS ?_
      · obtain ⟨x0, x1⟩ := hS; go_simp
      try simp only [Act.put]
      refine till_take (i := 3) _ (.pointer (some ⟨g, 0, none⟩)) [3] rfl (by kernel_rfl) (by kernel_rfl) (by kernel_rfl) (by kernel_rfl) (fun _ _ _ h => h) (.inl ⟨by rfl, fun w' hS => ?_⟩) HS ?_
      · obtain ⟨x0, x1⟩ := hS; go_simp
      try simp only [Act.put]
      refine till_take (i := 4) _ (.pointer (some ⟨g, 2, none⟩)) [4] rfl (by kernel_rfl) (by kernel_rfl) (by kernel_rfl) (by kernel_rfl) (fun _ _ _ h => h) (.inl ⟨by rfl, fun w' hS => ?_⟩) HS ?_
      · obtain ⟨x0, x1⟩ := hS; go_simp
      try simp only [Act.put]
      refine till_take (i := 5) _ (.int .i64 (a : Int)) [5] rfl (by kernel_rfl) (by kernel_rfl) (by kernel_rfl) (by kernel_rfl) (fun _ _ _ h => h) (.inl ⟨by rfl, fun w' hS => ?_⟩) HS ?_
      · obtain ⟨x0, x1⟩ := hS; go_simp
      try simp only [Act.put]
      refine till_take (i := 6) _ (.pointer (some ⟨g, 0, none⟩)) [6] rfl (by kernel_rfl) (by kernel_rfl) (by kernel_rfl) (by kernel_rfl) (fun _ _ _ h => h) (.inl ⟨by rfl, fun w' hS => ?_⟩) HS ?_
      · obtain ⟨x0, x1⟩ := hS; go_simp
      try simp only [Act.put]
      refine till_take (i := 7) _ (.pointer (some ⟨g, 0, none⟩)) [7] rfl (by kernel_rfl) (by kernel_rfl) (by kernel_rfl) (by kernel_rfl) (fun _ _ _ h => h) (.inl ⟨by rfl, fun w' hS => ?_⟩) HS ?_
      · obtain ⟨x0, x1⟩ := hS; go_simp
      try simp only [Act.put]
      refine till_take (i := 8) _ (.pointer (some ⟨g, 0, none⟩)) [8] rfl (by kernel_rfl) (by kernel_rfl) (by kernel_rfl) (by kernel_rfl) (fun _ _ _ h => h) (.inl ⟨by rfl, fun w' hS => ?_⟩) HS ?_
      · obtain ⟨x0, x1⟩ := hS; go_simp
      try simp only [Act.put]
      refine till_take (i := 9) _ (.pointer (some ⟨g, 3, none⟩)) [9] rfl (by kernel_rfl) (by kernel_rfl) (by kernel_rfl) (by kernel_rfl) (fun _ _ _ h => h) (.inl ⟨by rfl, fun w' hS => ?_⟩) HS ?_
      · obtain ⟨x0, x1⟩ := hS; go_simp
      try simp only [Act.put]
      refine till_take (i := 10) _ (.int .i64 (b : Int)) [10] rfl (by kernel_rfl) (by kernel_rfl) (by kernel_rfl) (by kernel_rfl) (fun _ _ _ h => h) (.inl ⟨by rfl, fun w' hS => ?_⟩) HS ?_
      · obtain ⟨x0, x1⟩ := hS; go_simp
      try simp only [Act.put]
      refine till_one (i := 11) _ (by kernel_rfl) rfl rfl (fun K0 hK => ?_)
      go_simp
      go_at_call 46
      refine (crd _ (K2.out.drewN 1)).mono ?_
      rintro e w3 ⟨rfl, hb3⟩
      have HS3 : w3.cell? ⟨g, 2, none⟩ = some (.int .i64 (a : Int)) ∧ w3.cell? ⟨g, 3, none⟩ = some (.int .i64 (b : Int)) := ⟨(hb3.cell (p := ⟨g, 2, none⟩) K2.out.blk.lt).trans HS.1, (hb3.cell (p := ⟨g, 3, none⟩) K2.out.blk.lt).trans HS.2⟩
      have HB3 : Hid (Below w.heap.size w w3) := Lib.hid (HB1.out.trans (((Below.refl w1.heap.size (w1.drewN q).drew).trans hb3 : Below w1.heap.size _ w3).mono HB1.out.size |> fun z => ⟨z.1, z.2, z.3, z.4, z.5⟩))
      refine hK.out _ _ (fun _ _ => HS3) ?_
      try simp only [Act.put, List.setIfInBounds_toArray, List.set_cons_zero, List.set_cons_succ]
      clear hK K0 HS
      have HS := HS3
      refine till_take (i := 12) _ (.slice none 0 0) [12] rfl (by kernel_rfl) (by kernel_rfl) (by kernel_rfl) (by kernel_rfl) (fun _ _ _ h => h) (.inl ⟨by rfl, fun w' hS => ?_⟩) HS ?_
      · obtain ⟨x0, x1⟩ := hS; go_simp
      try simp only [Act.put, List.setIfInBounds_toArray]
      refine till_take (i := 13) _ (.int .i64 17) [13] rfl (by kernel_rfl) (by kernel_rfl) (by kernel_rfl) (by kernel_rfl) (fun _ _ _ h => h) (.inl ⟨by rfl, fun w' hS => ?_⟩) HS ?_
      · obtain ⟨x0, x1⟩ := hS; go_simp
      try simp only [Act.put]
      refine till_one (i := 14) _ (by kernel_rfl) rfl rfl (fun K0 hK => ?_)
      go_simp
      refine hK.out _ _ (fun _ _ => HS) ?_
      try simp only [Act.put, List.setIfInBounds_toArray, List.set_cons_zero, List.set_cons_succ]
      clear hK K0
      refine till_one (i := 15) _ (by kernel_rfl) rfl rfl (fun K0 hK => ?_)
      go_simp
      refine hK.out _ _ (fun h => absurd rfl h) ?_
      try simp only [Act.put, List.setIfInBounds_toArray, List.set_cons_zero, List.set_cons_succ]
      clear hK K0
      refine till_done (by kernel_rfl) ?_
      go_wp2
      go_ret2
      rw [hu17.out]
      exact ⟨none, 0, 0, rfl, Reads.nil, by omega, by omega, by unfold maxLen; omega, HB3.out⟩
    · have hu17 : Hid (u = (readL d a hh, 0)) := Lib.hid (by rw [HU.out]; unfold homeD; rw [if_neg (by rw [h0]; decide), if_neg hdead, homeL_read, ha]; rfl)
      have crd := fun W hW => read_wk W g (beginV (layV hh gg) A2 n c2 A2' m c2' d) d [] [] [] hW a hh (by omega) (by omega) (fun i hi => readD_ok (by simpa using hdead) (by omega))
      rw [← hb] at crd
      clear hlay h0 hbl hb ha hdead
      go_wp2_with fail
      refine cf.mono ?_
      rintro e w2 ⟨rfl, q, rfl⟩
      have K2 := Lib.hid (K.out.drewN q)
      go_wp2_with fail
      refine wp_region_till (fun w' => w'.cell? ⟨g, 2, none⟩ = some (.int .i64 (a : Int)) ∧ w'.cell? ⟨g, 3, none⟩ = some (.int .i64 (b : Int))) 15 16 hmx (by kernel_rfl) ?_
      have HS : ((w1.drewN q).drew).cell? ⟨g, 2, none⟩ = some (.int .i64 (a : Int)) ∧ ((w1.drewN q).drew).cell? ⟨g, 3, none⟩ = some (.int .i64 (b : Int)) := ⟨q2', q3'⟩
      refine till_take (i := 0) _ (.pointer (some ⟨g, 0, none⟩)) [0] rfl (by kernel_rfl) (by kernel_rfl) (by kernel_rfl) (by kernel_rfl) (fun _ _ _ h => h) (.inl ⟨by rfl, fun w' hS => ?_⟩) HS ?_
      · obtain ⟨x0, x1⟩ := hS; go_simp
      try simp only [Act.put, List.setIfInBounds_toArray]
      refine till_take (i := 1) _ (.pointer (some ⟨g, 0, none⟩)) [1] rfl (by kernel_rfl) (by kernel_rfl) (by kernel_rfl) (by kernel_rfl) (fun _ _ _ h => h) (.inl ⟨by rfl, fun w' hS => ?_⟩) HS ?_
      · obtain ⟨x0, x1⟩ := hS; go_simp
      try simp only [Act.put]
      refine till_take (i := 2) _ (.pointer (some ⟨g, 0, none⟩)) [2] rfl (by kernel_rfl) (by kernel_rfl) (by kernel_rfl) (by kernel_rfl) (fun _ _ _ h => h) (.inl ⟨by rfl, fun w' hS => ?_⟩) HS ?_
      · obtain ⟨x0, x1⟩ := hS; go_simp
      try simp only [Act.put]
      refine till_take (i := 3) _ (.pointer (some ⟨g, 0, none⟩)) [3] rfl (by kernel_rfl) (by kernel_rfl) (by kernel_rfl) (by kernel_rfl) (fun _ _ _ h => h) (.inl ⟨by rfl, fun w' hS => ?_⟩) HS ?_
      · obtain ⟨x0, x1⟩ := hS; go_simp
      try simp only [Act.put]
      refine till_take (i := 4) _ (.pointer (some ⟨g, 2, none⟩)) [4] rfl (by kernel_rfl) (by kernel_rfl) (by kernel_rfl) (by kernel_rfl) (fun _ _ _ h => h) (.inl ⟨by rfl, fun w' hS => ?_⟩) HS ?_
      · obtain ⟨x0, x1⟩ := hS; go_simp
      try simp only [Act.put]
      refine till_take (i := 5) _ (.int .i64 (a : Int)) [5] rfl (by kernel_rfl) (by kernel_rfl) (by kernel_rfl) (by kernel_rfl) (fun _ _ _ h => h) (.inl ⟨by rfl, fun w' hS => ?_⟩) HS ?_
      · obtain ⟨x0, x1⟩ := hS; go_simp
      try simp only [Act.put]
      refine till_take (i := 6) _ (.pointer (some ⟨g, 0, none⟩)) [6] rfl (by kernel_rfl) (by kernel_rfl) (by kernel_rfl) (by kernel_rfl) (fun _ _ _ h => h) (.inl ⟨by rfl, fun w' hS => ?_⟩) HS ?_
      · obtain ⟨x0, x1⟩ := hS; go_simp
      try simp only [Act.put]
      refine till_take (i := 7) _ (.pointer (some ⟨g, 0, none⟩)) [7] rfl (by kernel_rfl) (by kernel_rfl) (by kernel_rfl) (by kernel_rfl) (fun _ _ _ h => h) (.inl ⟨by rfl, fun w' hS => ?_⟩) HS ?_
      · obtain ⟨x0, x1⟩ := hS; go_simp
      try simp only [Act.put]
      refine till_take (i := 8) _ (.pointer (some ⟨g, 0, none⟩)) [8] rfl (by kernel_rfl) (by kernel_rfl) (by kernel_rfl) (by kernel_rfl) (fun _ _ _ h => h) (.inl ⟨by rfl, fun w' hS => ?_⟩) HS ?_
      · obtain ⟨x0, x1⟩ := hS; go_simp
      try simp only [Act.put]
      refine till_take (i := 9) _ (.pointer (some ⟨g, 3, none⟩)) [9] rfl (by kernel_rfl) (by kernel_rfl) (by kernel_rfl) (by kernel_rfl) (fun _ _ _ h => h) (.inl ⟨by rfl, fun w' hS => ?_⟩) HS ?_
      · obtain ⟨x0, x1⟩ := hS; go_simp
      try simp only [Act.put]
      refine till_take (i := 10) _ (.int .i64 (b : Int)) [10] rfl (by kernel_rfl) (by kernel_rfl) (by kernel_rfl) (by kernel_rfl) (fun _ _ _ h => h) (.inl ⟨by rfl, fun w' hS => ?_⟩) HS ?_
      · obtain ⟨x0, x1⟩ := hS; go_simp
      try simp only [Act.put]
      refine till_one (i := 11) _ (by kernel_rfl) rfl rfl (fun K0 hK => ?_)
      go_simp
      go_at_call 46
      refine (crd _ (K2.out.drewN 1)).mono ?_
      rintro e w3 ⟨A3, c3, rfl, hkc, hcm, ho3, hb3⟩
      have HR := Lib.hid (And.intro (Reads.of_own ho3) (And.intro hkc hcm))
      clear ho3 hkc hcm
      have HS3 : w3.cell? ⟨g, 2, none⟩ = some (.int .i64 (a : Int)) ∧ w3.cell? ⟨g, 3, none⟩ = some (.int .i64 (b : Int)) := ⟨(hb3.cell (p := ⟨g, 2, none⟩) K2.out.blk.lt).trans HS.1, (hb3.cell (p := ⟨g, 3, none⟩) K2.out.blk.lt).trans HS.2⟩
      have HB3 : Hid (Below w.heap.size w w3) := Lib.hid (HB1.out.trans (((Below.refl w1.heap.size (w1.drewN q).drew).trans hb3 : Below w1.heap.size _ w3).mono HB1.out.size |> fun z => ⟨z.1, z.2, z.3, z.4, z.5⟩))
      refine hK.out _ _ (fun _ _ => HS3) ?_
      try simp only [Act.put, List.setIfInBounds_toArray, List.set_cons_zero, List.set_cons_succ]
      clear hK K0 HS
      have HS := HS3
      refine till_take (i := 12) _ (.slice A3 hh c3) [12] rfl (by kernel_rfl) (by kernel_rfl) (by kernel_rfl) (by kernel_rfl) (fun _ _ _ h => h) (.inl ⟨by rfl, fun w' hS => ?_⟩) HS ?_
      · obtain ⟨x0, x1⟩ := hS; go_simp
      try simp only [Act.put, List.setIfInBounds_toArray]
      refine till_take (i := 13) _ (.int .i64 0) [13] rfl (by kernel_rfl) (by kernel_rfl) (by kernel_rfl) (by kernel_rfl) (fun _ _ _ h => h) (.inl ⟨by rfl, fun w' hS => ?_⟩) HS ?_
      · obtain ⟨x0, x1⟩ := hS; go_simp
      try simp only [Act.put]
      refine till_one (i := 14) _ (by kernel_rfl) rfl rfl (fun K0 hK => ?_)
      go_simp
      refine hK.out _ _ (fun _ _ => HS) ?_
      try simp only [Act.put, List.setIfInBounds_toArray, List.set_cons_zero, List.set_cons_succ]
      clear hK K0
      refine till_one (i := 15) _ (by kernel_rfl) rfl rfl (fun K0 hK => ?_)
      go_simp
      refine hK.out _ _ (fun h => absurd rfl h) ?_
      try simp only [Act.put, List.setIfInBounds_toArray, List.set_cons_zero, List.set_cons_succ]
      clear hK K0
      refine till_done (by kernel_rfl) ?_
      go_wp2
      go_ret2
      rw [hu17.out]
      exact ⟨A3, hh, c3, rfl, HR.out.1, by omega, HR.out.2.1, HR.out.2.2, HB3.out⟩
  · have h0' : (wrongE d x y != 0) = true := by simpa using h0
    have hu2 : Hid (u = ([], wrongE d x y)) := Lib.hid (by rw [HU.out]; unfold homeD; rw [if_pos h0])
    generalize wrongE d x y = r at *
    go_wp2_with fail
    refine cf.mono ?_
    rintro e w2 ⟨rfl, q, rfl⟩
    go_wp2
    go_ret2
    rw [hu2.out]
    exact ⟨none, 0, 0, rfl, Reads.nil, by omega, by omega, by unfold maxLen; omega, below_drewN HB1.out q⟩

end Go.Proofs.Ytlpijikhbjkmfaa

/-
  A commit and a recovery as plain lists, and the steps of both done by the program's row of steps.
-/
namespace Go.Proofs.Ytlpijikhbjkmfaa
open Go.RowKit

/-- What is written ahead of the flush behind which a commit is done; and what behind it. -/
def logSteps (h : Nat) (sq : Nat) (pl : List Nat) (bl : List ByteArray) : List Step := rowSteps 1 (listB pl) ++ rowSteps (1 + listsN h) bl ++ [.flush] ++ rowSteps 0 [sealB sq pl bl] ++ [.flush]
def endSteps (a : Nat) (pl : List Nat) (bl : List ByteArray) : List Step := homeSteps a pl bl ++ [.flush] ++ rowSteps 0 [zeroB] ++ [.flush]
def commitD (d : D) (x y : Int) (sq : Nat) (img : List ByteArray) : D × Int × Bool :=
  if wrongE d x y ≠ 0 then (d, wrongE d x y, false)
  else if ¬ ImageP img x then (d, 14, false)
  else if clearE d ≠ 0 then (d, clearE d, false)
  else if y.toNat < (changedL (homeL d x.toNat y.toNat) img).length then (d, 18, false)
  else if (changedL (homeL d x.toNat y.toNat) img).length = 0 then (d, 0, true)
  else if (runD (d, 0) (logSteps x.toNat sq (changedL (homeL d x.toNat y.toNat) img) ((changedL (homeL d x.toNat y.toNat) img).map (blk img)))).2 ≠ 0 then
    ((runD (d, 0) (logSteps x.toNat sq (changedL (homeL d x.toNat y.toNat) img) ((changedL (homeL d x.toNat y.toNat) img).map (blk img)))).1, (runD (d, 0) (logSteps x.toNat sq (changedL (homeL d x.toNat y.toNat) img) ((changedL (homeL d x.toNat y.toNat) img).map (blk img)))).2, false)
  else
    ((runD (d, 0) (logSteps x.toNat sq (changedL (homeL d x.toNat y.toNat) img) ((changedL (homeL d x.toNat y.toNat) img).map (blk img)) ++ endSteps (1 + listsN x.toNat + y.toNat) (changedL (homeL d x.toNat y.toNat) img) ((changedL (homeL d x.toNat y.toNat) img).map (blk img)))).1,
     (runD (d, 0) (logSteps x.toNat sq (changedL (homeL d x.toNat y.toNat) img) ((changedL (homeL d x.toNat y.toNat) img).map (blk img)) ++ endSteps (1 + listsN x.toNat + y.toNat) (changedL (homeL d x.toNat y.toNat) img) ((changedL (homeL d x.toNat y.toNat) img).map (blk img)))).2, true)

/-- The ten steps of a commit. -/
def stepK (h a : Nat) (sq : Nat) (pl : List Nat) (bl : List ByteArray) : Nat → List Step
  | 0 => rowSteps 1 (listB pl)
  | 1 => rowSteps (1 + listsN h) bl
  | 2 => [.flush]
  | 3 => rowSteps 0 [sealB sq pl bl]
  | 4 => [.flush]
  | 5 => []
  | 6 => homeSteps a pl bl
  | 7 => [.flush]
  | 8 => rowSteps 0 [zeroB]
  | 9 => [.flush]
  | _ + 10 => []
/-- The first k of a row of lists. -/
def preK (f : Nat → List Step) : Nat → List Step
  | 0 => []
  | k + 1 => preK f k ++ f k
theorem pre_log (h a sq : Nat) (pl : List Nat) (bl : List ByteArray) : preK (stepK h a sq pl bl) 5 = logSteps h sq pl bl := by
  simp [preK, stepK, logSteps]
theorem pre_all (h a sq : Nat) (pl : List Nat) (bl : List ByteArray) : preK (stepK h a sq pl bl) 10 = logSteps h sq pl bl ++ endSteps a pl bl := by
  simp [preK, stepK, logSteps, endSteps]
theorem pre_add (f : Nat → List Step) (k : Nat) : ∀ j, ∃ r, preK f (k + j) = preK f k ++ r
  | 0 => ⟨[], by simp⟩
  | j + 1 => by
    obtain ⟨r, hr⟩ := pre_add f k j
    exact ⟨r ++ f (k + j), by rw [← Nat.add_assoc]; show preK f (k + j) ++ f (k + j) = _; rw [hr, List.append_assoc]⟩
theorem pre_err (f : Nat → List Step) {k n : Nat} (hk : k ≤ n) (x : D × Int) (h : (runD x (preK f k)).2 ≠ 0) : runD x (preK f n) = runD x (preK f k) := by
  obtain ⟨r, hr⟩ := pre_add f k (n - k)
  rw [show n = k + (n - k) by omega, hr, runD_app, runD_err h]

/-- While a row of steps is done: k of them have been. -/
structure Dn (f : Nat → List Step) (g : Nat) (W0 : World) (d : D) (img bl : List ByteArray) (pl : List Nat) (p0 p1 p2 : Int) (sq : Nat) (dn : Bool) (k : Nat) (W : World) : Prop where
  ex : ∃ v : WV, v.p0 = p0 ∧ v.p1 = p1 ∧ v.p2 = p2 ∧ v.sq = sq ∧ v.dn = dn ∧ Wk W g v (runD (d, 0) (preK f k)).1 img pl bl
  ok : (runD (d, 0) (preK f k)).2 = 0
  gr : W0.grownBy W (some g)
/-- The k-th of them has failed. -/
structure Fl (f : Nat → List Step) (g : Nat) (W0 : World) (d : D) (img bl : List ByteArray) (pl : List Nat) (dn : Bool) (k : Nat) (x : Int) (W : World) : Prop where
  ex : ∃ v : WV, v.dn = dn ∧ Wk W g v (runD (d, 0) (preK f (k + 1))).1 img pl bl
  okk : (runD (d, 0) (preK f k)).2 = 0
  bad : (runD (d, 0) (preK f (k + 1))).2 = x
  gr : W0.grownBy W (some g)
theorem Ndev.p {v v' : WV} (h : Ndev v v') : v'.p0 = v.p0 ∧ v'.p1 = v.p1 ∧ v'.p2 = v.p2 ∧ v'.sq = v.sq ∧ v'.dn = v.dn := by
  obtain ⟨A, n, c1, A', m, c', l, z, rfl⟩ := h
  exact ⟨rfl, rfl, rfl, rfl, rfl⟩
/-- One step more, by what it answers and leaves. -/
theorem dn_step {f : Nat → List Step} {g : Nat} {W0 W W' : World} {d : D} {img bl : List ByteArray} {pl : List Nat} {p0 p1 p2 : Int} {sq : Nat} {dn : Bool} {k : Nat} {v : WV} {e : Ending}
    (hp : v.p0 = p0 ∧ v.p1 = p1 ∧ v.p2 = p2 ∧ v.sq = sq ∧ v.dn = dn) (hok : (runD (d, 0) (preK f k)).2 = 0) (hgr : W0.grownBy W (some g))
    {S : List Step} (hS : f k = S) (h : Puts g v (runD (d, 0) (preK f k)).1 img bl pl W S e W') : ∃ x : Int, e = .returned (.int .i64 x) ∧ ((x = 0 ∧ Dn f g W0 d img bl pl p0 p1 p2 sq dn (k + 1) W') ∨ (x ≠ 0 ∧ Fl f g W0 d img bl pl dn k x W')) := by
  subst hS
  obtain ⟨h1, v', h2, h3, h4⟩ := h
  have e1 : runD (d, 0) (preK f (k + 1)) = runD ((runD (d, 0) (preK f k)).1, 0) (f k) := by
    show runD (d, 0) (preK f k ++ f k) = _
    rw [runD_app]
    congr 1
    exact Prod.ext rfl hok
  have hpp := h2.p
  refine ⟨_, h1, ?_⟩
  by_cases hx : (runD ((runD (d, 0) (preK f k)).1, 0) (f k)).2 = 0
  · exact .inl ⟨hx, ⟨v', by rw [hpp.1]; exact hp.1, by rw [hpp.2.1]; exact hp.2.1, by rw [hpp.2.2.1]; exact hp.2.2.1, by rw [hpp.2.2.2.1]; exact hp.2.2.2.1, by rw [hpp.2.2.2.2]; exact hp.2.2.2.2, by rw [e1]; exact h3⟩, by rw [e1]; exact hx, grown_trans hgr h4⟩
  · exact .inr ⟨hx, ⟨v', by rw [hpp.2.2.2.2]; exact hp.2.2.2.2, by rw [e1]; exact h3⟩, hok, by rw [e1], grown_trans hgr h4⟩
theorem Wk.done {w : World} {g : Nat} {v : WV} {d : D} {img bl : List ByteArray} {pl : List Nat} (h : Wk w g v d img pl bl) : Wk (w.setCell ⟨g, 12, none⟩ (.bool true)) g { v with dn := true } d img pl bl := by
  have hg := grown_set w g 12 (.bool true)
  exact ⟨h.blk.set_ 12 _ rfl, h.dvgr hg, h.hl, h.hz, h.imgr hg, h.hi, h.plgr hg, h.far, h.hk, h.blgr hg, h.hj⟩
theorem flush_puts {g : Nat} {v : WV} {d : D} {img bl : List ByteArray} {pl : List Nat} {w w' : World} {e : Ending} (h : e = .returned (.int .i64 (flushD d).2) ∧ ∃ v', Ndev v v' ∧ Wk w' g v' (flushD d).1 img pl bl ∧ w.grownBy w' (some g)) : Puts g v d img bl pl w [.flush] e w' := h

/-- What a commit comes to, once something is to be written. -/
theorem commitD_late {d : D} {h g : Nat} {sq : Nat} {img : List ByteArray} (h0 : wrongE d h g = 0) (h1 : ImageP img (h : Int)) (h2 : clearE d = 0) {pl : List Nat} (hpl : pl = changedL (homeL d h g) img) (hle : pl.length ≤ g) (hne : pl.length ≠ 0) :
    commitD d h g sq img = if (runD (d, 0) (preK (stepK h (1 + listsN h + g) sq pl (pl.map (blk img))) 5)).2 ≠ 0 then
      ((runD (d, 0) (preK (stepK h (1 + listsN h + g) sq pl (pl.map (blk img))) 5)).1, (runD (d, 0) (preK (stepK h (1 + listsN h + g) sq pl (pl.map (blk img))) 5)).2, false)
      else ((runD (d, 0) (preK (stepK h (1 + listsN h + g) sq pl (pl.map (blk img))) 10)).1, (runD (d, 0) (preK (stepK h (1 + listsN h + g) sq pl (pl.map (blk img))) 10)).2, true) := by
  unfold commitD
  simp only [Int.toNat_natCast]
  rw [if_neg (by rw [h0]; decide), if_neg (fun hh => hh h1), if_neg (by rw [h2]; decide), ← hpl, if_neg (by omega), if_neg hne, pre_log, pre_all]
theorem late_done {d : D} {f : Nat → List Step} (h10 : (runD (d, 0) (preK f 10)).2 = 0) : (runD (d, 0) (preK f 5)).2 = 0 := by
  by_cases h : (runD (d, 0) (preK f 5)).2 = 0
  · exact h
  · rw [pre_err f (show 5 ≤ 10 by omega) (d, 0) h] at h10
    exact h10

def fsCommit (g : Nat) : List (Nat × Nat) := [(25, g), (26, g), (27, g), (28, g), (27, g), (29, g), (30, g), (27, g), (31, g), (27, g)]
theorem eg_of {f : Nat} {fn : Func} (_h : Try.prog.funcs[f]? = some fn) (hs : ∀ args w, (callFunc f args).run Try.prog w = .ok (.enter f args) w) : ∀ args w, (callFunc f args).run Try.prog w = .ok (.enter f args) w := hs
theorem eg_commit (g : Nat) : ∀ p ∈ fsCommit g, ∀ args w, (callFunc p.1 args).run Try.prog w = .ok (.enter p.1 args) w := by
  intro p hp
  simp only [fsCommit, List.mem_cons, List.not_mem_nil, or_false] at hp
  rcases hp with rfl | rfl | rfl | rfl | rfl | rfl | rfl | rfl | rfl | rfl
  · exact enters_of Try.func25 (by kernel_rfl) rfl
  · exact enters_of Try.func26 (by kernel_rfl) rfl
  · exact enters_of Try.func27 (by kernel_rfl) rfl
  · exact enters_of Try.func28 (by kernel_rfl) rfl
  · exact enters_of Try.func27 (by kernel_rfl) rfl
  · exact enters_of Try.func29 (by kernel_rfl) rfl
  · exact enters_of Try.func30 (by kernel_rfl) rfl
  · exact enters_of Try.func27 (by kernel_rfl) rfl
  · exact enters_of Try.func31 (by kernel_rfl) rfl
  · exact enters_of Try.func27 (by kernel_rfl) rfl

set_option maxHeartbeats 1000000 in
/-- Each of the ten steps does its own. -/
theorem commit_steps (h a sq g : Nat) (W0 : World) (d : D) (img bl : List ByteArray) (pl : List Nat) (hf : FitP d) (hl : d.left ≤ 9223372036854775807) (hh : h ≤ 512) (ha : a ≤ 265) (hpl : ∀ k, k < pl.length → pl.getD k 0 < 65536) (hpn : pl.length ≤ 256 ∧ 0 < pl.length) (hbn : bl.length = pl.length) (hbl : ∀ b ∈ bl, b.size = 128) (hsq : sq < 18446744073709551616) :
    ∀ k W p, Dn (stepK h a sq pl bl) g W0 d img bl pl 1 ((1 + listsN h : Nat) : Int) a sq (decide (6 ≤ k)) k W → (fsCommit g)[k]? = some p →
      Calls Try.prog p.1 #[.pointer (some ⟨p.2, 0, none⟩)] W fun e W' => ∃ x : Int, e = .returned (.int .i64 x) ∧ ((x = 0 ∧ Dn (stepK h a sq pl bl) g W0 d img bl pl 1 ((1 + listsN h : Nat) : Int) a sq (decide (6 ≤ k + 1)) (k + 1) W') ∨ (x ≠ 0 ∧ Fl (stepK h a sq pl bl) g W0 d img bl pl (decide (6 ≤ k)) k x W')) := by
  intro k W p hD hp
  obtain ⟨⟨v, e0, e1, e2, e3, e4, hk⟩, hok, hgr⟩ := hD
  have hl2 : (runD (d, 0) (preK (stepK h a sq pl bl) k)).1.left ≤ 9223372036854775807 := left_run _ hl
  have hf2 : FitP (runD (d, 0) (preK (stepK h a sq pl bl) k)).1 := fit_run _ hf
  have hvk : v.k = pl.length := hk.pl.lenN.symm
  have hvj : v.j = pl.length := by rw [← hk.bl.lenS]; exact hbn
  have hcs := hf2.1.2.2.1
  have hls : listsN h ≤ 8 := by unfold listsN; omega
  rcases k with _ | _ | _ | _ | _ | _ | _ | _ | _ | _ | k
  · obtain rfl := Option.some.inj hp
    exact (writeList_wk W g v _ img bl pl hk hl2 ⟨by omega, by omega⟩ e0 (by rw [hvk]; exact hpl)).mono fun e W' hh => dn_step ⟨e0, e1, e2, e3, e4⟩ hok hgr rfl hh
  · obtain rfl := Option.some.inj hp
    exact (writeLog_wk W g v _ img bl pl hk hl2 (by omega) (1 + listsN h) (by omega) e1).mono fun e W' hh => dn_step ⟨e0, e1, e2, e3, e4⟩ hok hgr rfl hh
  · obtain rfl := Option.some.inj hp
    exact (flush_wk W g v _ img bl pl hk hl2 hcs).mono fun e W' hh => dn_step ⟨e0, e1, e2, e3, e4⟩ hok hgr rfl hh
  · obtain rfl := Option.some.inj hp
    exact (writeCommit_wk W g v _ img bl pl hk hl2 (by omega) (by omega) (by rw [hvk]; exact hpl) hbl (by rw [e3]; exact hsq)).mono fun e W' hh => dn_step ⟨e0, e1, e2, e3, e4⟩ hok hgr rfl (by rw [e3] at hh; exact hh)
  · obtain rfl := Option.some.inj hp
    exact (flush_wk W g v _ img bl pl hk hl2 hcs).mono fun e W' hh => dn_step ⟨e0, e1, e2, e3, e4⟩ hok hgr rfl hh
  · obtain rfl := Option.some.inj hp
    refine (setDone_wk W g v hk.blk).mono fun e W' hh => ⟨0, hh.1, .inl ⟨rfl, ⟨{ v with dn := true }, e0, e1, e2, e3, rfl, ?_⟩, ?_, ?_⟩⟩
    · show Wk W' g _ (runD (d, 0) (preK (stepK h a sq pl bl) 5 ++ [])).1 img pl bl
      rw [hh.2, List.append_nil]
      exact hk.done
    · show (runD (d, 0) (preK (stepK h a sq pl bl) 5 ++ [])).2 = 0
      rw [List.append_nil]; exact hok
    · rw [hh.2]; exact grown_trans hgr (grown_set _ _ _ _)
  · obtain rfl := Option.some.inj hp
    exact (writeHome_wk W g v _ img bl pl hk hl2 a (by omega) e2 (by omega) (by omega) (by rw [hvk]; exact hpl)).mono fun e W' hh => dn_step ⟨e0, e1, e2, e3, e4⟩ hok hgr rfl hh
  · obtain rfl := Option.some.inj hp
    exact (flush_wk W g v _ img bl pl hk hl2 hcs).mono fun e W' hh => dn_step ⟨e0, e1, e2, e3, e4⟩ hok hgr rfl hh
  · obtain rfl := Option.some.inj hp
    exact (writeClear_wk W g v _ img bl pl hk hl2).mono fun e W' hh => dn_step ⟨e0, e1, e2, e3, e4⟩ hok hgr rfl hh
  · obtain rfl := Option.some.inj hp
    exact (flush_wk W g v _ img bl pl hk hl2 hcs).mono fun e W' hh => dn_step ⟨e0, e1, e2, e3, e4⟩ hok hgr rfl hh
  · simp [fsCommit] at hp

end Go.Proofs.Ytlpijikhbjkmfaa

/-
  Commit: the program's function.
-/
namespace Go.Proofs.Ytlpijikhbjkmfaa
open Go.RowKit

def Tells3 (w w' : World) (r : D × Int × Bool) (e : Ending) : Prop :=
  ∃ A n c A' m c', e = .returned (.tuple #[.agg #[.slice A n c, .slice A' m c', .int .i64 r.1.left, .bool r.1.dead], .int .i64 r.2.1, .bool r.2.2]) ∧ Dv w' w'.heap.size A n A' m r.1 ∧ Below w.heap.size w w'
theorem Wk.seqimg {w : World} {g : Nat} {v : WV} {d : D} (h : Wk w g v d [] [] []) (sq : Nat) {I : Option Addr} {i ic : Nat} {img : List ByteArray} (hi : Reads w w.heap.size 1 I i (encS img)) (hi2 : i * 16 ≤ 140737488355328) :
    Wk ((w.setCell ⟨g, 9, none⟩ (.int .u64 sq)).setCell ⟨g, 8, none⟩ (.slice I i ic)) g { v with sq := sq, I := I, i := i, ic := ic } d img [] [] := by
  have hg := grown_trans (grown_set w g 9 (.int .u64 sq)) (grown_set _ g 8 (.slice I i ic))
  have b1 := h.blk.set_ 9 (.int .u64 sq) (v' := { v with sq := sq }) rfl
  have b2 := b1.set_ 8 (.slice I i ic) (v' := { v with sq := sq, I := I, i := i, ic := ic }) rfl
  exact ⟨b2, h.dvgr hg, h.hl, h.hz, hi.grown (_B := 0) (far_str h.blk hi) hg, hi2, h.plgr hg, h.far, h.hk, h.blgr hg, h.hj⟩

def fsFirst (g : Nat) : List (Nat × Nat) := [(21, g), (22, g), (23, g), (24, g)]
theorem eg_first (g : Nat) : ∀ p ∈ fsFirst g, ∀ args w, (callFunc p.1 args).run Try.prog w = .ok (.enter p.1 args) w := by
  intro p hp
  simp only [fsFirst, List.mem_cons, List.not_mem_nil, or_false] at hp
  rcases hp with rfl | rfl | rfl | rfl
  · exact enters_of Try.func21 (by kernel_rfl) rfl
  · exact enters_of Try.func22 (by kernel_rfl) rfl
  · exact enters_of Try.func23 (by kernel_rfl) rfl
  · exact enters_of Try.func24 (by kernel_rfl) rfl

/-- While a commit is looked at. -/
structure Ask (g : Nat) (W0 : World) (v : WV) (d : D) (x y : Int) (img : List ByteArray) (k : Nat) (W : World) : Prop where
  gr : W0.grownBy W (some g)
  lo : k < 4 → Wk W g v d img [] []
  f0 : 0 < k → wrongE d x y = 0
  f1 : 1 < k → ImageP img x
  f2 : 2 < k → clearE d = 0
  hi : k = 4 → (changedL (homeL d x.toNat y.toNat) img).length ≤ y.toNat ∧ ∃ v', Npl v v' ∧ Wk W g v' d img (changedL (homeL d x.toNat y.toNat) img) ((changedL (homeL d x.toNat y.toNat) img).map (blk img))
/-- It can't be. -/
structure Bad (g : Nat) (W0 : World) (d : D) (x y : Int) (sq : Nat) (img : List ByteArray) (r : Int) (W : World) : Prop where
  gr : W0.grownBy W (some g)
  is : commitD d x y sq img = (d, r, false)
  ex : ∃ v pl bl, Wk W g v d img pl bl

theorem first_steps (g : Nat) (W0 : World) (v : WV) (d : D) (x y : Int) (sq : Nat) (img : List ByteArray) (_hf : FitP d) (n : Nat) (hn : d.bs.length = n) (hvn : v.n = n) (hv : v.L = none ∧ v.j = 0 ∧ v.jc = 0)
    (hp : v.p0 = (layV x y).1 ∧ v.p1 = (layV x y).2.1 ∧ v.p2 = (layV x y).2.2.1 ∧ v.p3 = (layV x y).2.2.2) :
    ∀ k W p, Ask g W0 v d x y img k W → (fsFirst g)[k]? = some p →
      Calls Try.prog p.1 #[.pointer (some ⟨p.2, 0, none⟩)] W fun e W' => ∃ r : Int, e = .returned (.int .i64 r) ∧ ((r = 0 ∧ Ask g W0 v d x y img (k + 1) W') ∨ (r ≠ 0 ∧ Bad g W0 d x y sq img r W')) := by
  intro k W p hA hpk
  obtain ⟨p0, p1, p2, p3⟩ := hp
  have hwr := wrong_fits d x y n hn
  rcases k with _ | _ | _ | _ | k
  · obtain rfl := Option.some.inj hpk
    have hk := hA.lo (by omega)
    refine (fits_wk W g v hk.blk).mono fun e W' hh => ?_
    obtain ⟨he, q, rfl⟩ := hh
    rw [p3, hvn, ← hwr] at he
    refine ⟨_, he, ?_⟩
    by_cases h0 : wrongE d x y = 0
    · exact .inl ⟨h0, grown_trans hA.gr (grown_drewN _ _ _), fun _ => hk.drewN q, fun _ => h0, fun h => absurd h (by omega), fun h => absurd h (by omega), fun h => absurd h (by omega)⟩
    · exact .inr ⟨h0, grown_trans hA.gr (grown_drewN _ _ _), by unfold commitD; rw [if_pos h0], v, [], [], hk.drewN q⟩
  · obtain rfl := Option.some.inj hpk
    have hk := hA.lo (by omega)
    have h0 := hA.f0 (by omega)
    have hne : (layV x y).2.2.2 ≠ 0 := fun e => by
      rw [hwr, e] at h0
      unfold fitsE at h0
      rw [if_pos rfl] at h0
      exact absurd h0 (by decide)
    obtain ⟨h, gg, rfl, rfl, hh1, hh2, gg1, gg2, hlay⟩ := lay_nat hne
    have hl8 : listsN h ≤ 8 := by unfold listsN; omega
    rw [hlay] at p2 p3
    dsimp only at p2 p3
    have hsub : v.p3 - v.p2 = (h : Int) := by rw [p2, p3]; omega
    have hi := hasImage_wk W g v img hk.blk hk.im (by have := hk.hi; omega) (by rw [p2, p3]; omega)
    rw [hsub] at hi
    refine hi.mono fun e W' hh => ?_
    obtain ⟨he, q, rfl⟩ := hh
    refine ⟨_, he, ?_⟩
    by_cases h1 : ImageP img (h : Int)
    · rw [if_pos h1]
      exact .inl ⟨rfl, grown_trans hA.gr (grown_drewN _ _ _), fun _ => hk.drewN q, fun _ => h0, fun _ => h1, fun h => absurd h (by omega), fun h => absurd h (by omega)⟩
    · rw [if_neg h1]
      exact .inr ⟨by decide, grown_trans hA.gr (grown_drewN _ _ _), by unfold commitD; rw [if_neg (by rw [h0]; decide), if_pos h1], v, [], [], hk.drewN q⟩
  · obtain rfl := Option.some.inj hpk
    have hk := hA.lo (by omega)
    have h0 := hA.f0 (by omega)
    have h1 := hA.f1 (by omega)
    refine (isClear_wk W g v d img [] [] hk).mono fun e W' hh => ?_
    obtain ⟨he, hb⟩ := hh
    refine ⟨_, he, ?_⟩
    by_cases h2 : clearE d = 0
    · exact .inl ⟨h2, grown_trans hA.gr (grown_of_below hb _), fun _ => hk.step hb, fun _ => h0, fun _ => h1, fun _ => h2, fun h => absurd h (by omega)⟩
    · exact .inr ⟨h2, grown_trans hA.gr (grown_of_below hb _), by unfold commitD; rw [if_neg (by rw [h0]; decide), if_neg (fun hh => hh h1), if_pos h2], v, [], [], hk.step hb⟩
  · obtain rfl := Option.some.inj hpk
    have hk := hA.lo (by omega)
    have h0 := hA.f0 (by omega)
    have h1 := hA.f1 (by omega)
    have h2 := hA.f2 (by omega)
    have hdead : d.dead = false := by
      cases hd : d.dead
      · rfl
      · unfold clearE at h2
        rw [readD_dead hd, if_neg (fun h => absurd h.1 (by decide))] at h2
        exact absurd h2 (by decide)
    have hne : (layV x y).2.2.2 ≠ 0 := fun e => by
      rw [hwr, e] at h0
      unfold fitsE at h0
      rw [if_pos rfl] at h0
      exact absurd h0 (by decide)
    obtain ⟨h, gg, rfl, rfl, hh1, hh2, gg1, gg2, hlay⟩ := lay_nat hne
    have hl8 : listsN h ≤ 8 := by unfold listsN; omega
    have hbl : d.bs.length = 1 + listsN h + gg + h := by
      have h3 := hwr
      rw [h0, hlay] at h3
      unfold fitsE at h3
      dsimp only at h3
      rw [if_neg (by omega)] at h3
      by_cases h4 : (n : Int) ≠ ((1 + listsN h + gg + h : Nat) : Int)
      · rw [if_pos h4] at h3; exact absurd h3 (by decide)
      · omega
    rw [hlay] at p1 p2 p3
    dsimp only at p1 p2 p3
    have hcmp := compare_wk W g v d img hk hv (1 + listsN h + gg) h gg (1 + listsN h) p2 p3 p1 rfl (by omega) hh2 (by have := h1.2; omega) (fun i hi => readD_ok hdead (by omega))
    rw [← homeL_read] at hcmp
    have HL : homeL d ((h : Int)).toNat ((gg : Int)).toNat = homeL d h gg := rfl
    refine hcmp.mono fun e W' hh => ?_
    obtain ⟨v', hv', hgr, hcase⟩ := hh
    rcases hcase with ⟨hbig, he, _, hk'⟩ | ⟨hle, he, hk'⟩
    · refine ⟨18, he, .inr ⟨by decide, grown_trans hA.gr hgr, ?_, v', _, _, hk'⟩⟩
      unfold commitD
      rw [if_neg (by rw [h0]; decide), if_neg (fun hh => hh h1), if_neg (by rw [h2]; decide), HL, if_pos (show ((gg : Int)).toNat < _ from hbig.out)]
    · refine ⟨0, he, .inl ⟨rfl, grown_trans hA.gr hgr, fun h => absurd h (by omega), fun _ => h0, fun _ => h1, fun _ => h2, fun _ => ⟨?_, v', hv', ?_⟩⟩⟩
      · rw [HL]; exact hle.out
      · rw [HL]; exact hk'
  · simp [fsFirst] at hpk

end Go.Proofs.Ytlpijikhbjkmfaa
