/-
  The program's own functions of layer 14: a rule, written.
-/
import Derived.Test.YtnidkcedomhofaaGreatDoorG36
namespace Go.Proofs.YtnidkcedomhofaaGreatDoor
open Go.RowKit

set_option maxRecDepth 100000 in
set_option maxHeartbeats 8000000 in
theorem pPrint14_any (r : RuV) (v1 v2 v3 v4 : Value) (w : World) (hv : VV w) (hu : -9223372036854775808 ≤ r.unt.secs ∧ r.unt.secs < 9223372036854775808) (h : RuS w r v1 v2 v3 v4) :
    Calls Tryz.prog 13 #[ruV r v1 v2 v3 v4] w fun e w' => e = .returned (.string (mkB (prnV r))) ∧ Below w.heap.size w w' := by
  obtain ⟨a1, c1, rfl⟩ := h.s1.lit
  obtain ⟨a2, c2, rfl⟩ := h.s2.lit
  obtain ⟨a3, c3, rfl⟩ := h.s3.lit
  obtain ⟨a4, c4, rfl⟩ := h.s4.lit
  have hb0 : Below w.heap.size w (w.alloc (.cells #[.int .i64 r.freq, .int .i64 r.intv, .int .i64 r.cnt, .bool r.has, .int .i64 r.unt.secs, .bool r.unt.utc, .bool r.unt.date, .slice a1 r.mon.length c1, .slice a2 r.md.length c2, .slice a3 r.dys.length c3, .slice a4 r.pos.length c4, .int .i64 r.wk] 27)) := (Below.refl _ _).alloc (Nat.le_refl _) _
  have cF := pFit14_any r _ _ _ _ (w.alloc (.cells #[.int .i64 r.freq, .int .i64 r.intv, .int .i64 r.cnt, .bool r.has, .int .i64 r.unt.secs, .bool r.unt.utc, .bool r.unt.date, .slice a1 r.mon.length c1, .slice a2 r.md.length c2, .slice a3 r.dys.length c3, .slice a4 r.pos.length c4, .int .i64 r.wk] 27)) (hv.step hb0) hu (h.step hb0)
  have HB0 := Lib.hid hb0
  have HV := Lib.hid hv
  have HS := Lib.hid h
  have BW : Hid (∀ W, Below (w.alloc (.cells #[.int .i64 r.freq, .int .i64 r.intv, .int .i64 r.cnt, .bool r.has, .int .i64 r.unt.secs, .bool r.unt.utc, .bool r.unt.date, .slice a1 r.mon.length c1, .slice a2 r.md.length c2, .slice a3 r.dys.length c3, .slice a4 r.pos.length c4, .int .i64 r.wk] 27)).heap.size (w.alloc (.cells #[.int .i64 r.freq, .int .i64 r.intv, .int .i64 r.cnt, .bool r.has, .int .i64 r.unt.secs, .bool r.unt.utc, .bool r.unt.date, .slice a1 r.mon.length c1, .slice a2 r.md.length c2, .slice a3 r.dys.length c3, .slice a4 r.pos.length c4, .int .i64 r.wk] 27)) W → Below w.heap.size w W) := Lib.hid (fun W hb => hb0.trans (hb.mono hb0.size))
  have CELL : Hid (∀ W, Below (w.alloc (.cells #[.int .i64 r.freq, .int .i64 r.intv, .int .i64 r.cnt, .bool r.has, .int .i64 r.unt.secs, .bool r.unt.utc, .bool r.unt.date, .slice a1 r.mon.length c1, .slice a2 r.md.length c2, .slice a3 r.dys.length c3, .slice a4 r.pos.length c4, .int .i64 r.wk] 27)).heap.size (w.alloc (.cells #[.int .i64 r.freq, .int .i64 r.intv, .int .i64 r.cnt, .bool r.has, .int .i64 r.unt.secs, .bool r.unt.utc, .bool r.unt.date, .slice a1 r.mon.length c1, .slice a2 r.md.length c2, .slice a3 r.dys.length c3, .slice a4 r.pos.length c4, .int .i64 r.wk] 27)) W → ∀ (j : Nat) (v : Value), (#[.int .i64 r.freq, .int .i64 r.intv, .int .i64 r.cnt, .bool r.has, .int .i64 r.unt.secs, .bool r.unt.utc, .bool r.unt.date, .slice a1 r.mon.length c1, .slice a2 r.md.length c2, .slice a3 r.dys.length c3, .slice a4 r.pos.length c4, .int .i64 r.wk] : Array Value)[j]? = some v → W.cell? ⟨w.heap.size, j, none⟩ = some v) := Lib.hid (fun W hb j v hj => (hb.cell (p := ⟨w.heap.size, j, none⟩) (by simp)).trans (cell_of (heap_alloc_new w _) hj))
  unfold ruV at cF ⊢
  clear hb0 h hv
  cases hfit : fitV r
  · have HP : Hid (prnV r = []) := Lib.hid (by unfold prnV; rw [hfit]; rfl)
    rw [hfit] at cF
    clear hfit
    go_enter Tryz.func13, Tryz.ntmps13
    go_wp2_with (go_at_call 11; refine cF.mono ?_; rintro e W1 ⟨rfl, hb⟩; clear cF)
    go_ret
    exact ⟨by rw [HP.out]; rfl, BW.out W1 hb⟩
  · have hF := (fitV_iff r).1 hfit
    have HP : Hid (prnV r = Lib.join (partsV r) [59]) := Lib.hid (by unfold prnV; rw [if_pos hfit])
    rw [hfit] at cF
    clear hfit
    have HCU := Lib.hid (show r.has = true → r.cnt = 0 from fun e => (hF.yes e).1)
    have b1 : (r.intv != 1) = hasK r 1 := by unfold hasK; by_cases e : r.intv = 1 <;> simp [e]
    have b2 : (r.cnt != 0) = hasK r 2 := by unfold hasK; by_cases e : r.cnt = 0 <;> simp [e]
    have b8 : (r.wk != 0) = hasK r 8 := by unfold hasK; by_cases e : r.wk = 0 <;> simp [e]
    cases no1 : hasK r 1
    · have E1 := Lib.hid (show r.intv = 1 by simpa [hasK] using no1)
      clear b1
      have hor : r.has = false ∨ r.has = true := by cases r.has <;> simp
      rcases hor with hh | hh
      · have no3 : hasK r 3 = false := hh
        have HH := Lib.hid hh
        clear hh
        cases no2 : hasK r 2
        · have E2 := Lib.hid (show r.cnt = 0 by simpa [hasK] using no2)
          clear b2
          cases no8 : hasK r 8
          · have E8 := Lib.hid (show r.wk = 0 by simpa [hasK] using no8)
            clear b8
            have HPS : Hid (partsV r = ((((([] ++ optK r 0) ++ optK r 4) ++ optK r 5) ++ optK r 6) ++ optK r 7)) := Lib.hid (by
              rw [partsV_is]
              have e1 : optK r 1 = [] := by unfold optK; rw [if_neg (by rw [no1]; decide)]
              have e2 : optK r 2 = [] := by unfold optK; rw [if_neg (by rw [no2]; decide)]
              have e3 : optK r 3 = [] := by unfold optK; rw [if_neg (by rw [no3]; decide)]
              have e8 : optK r 8 = [] := by unfold optK; rw [if_neg (by rw [no8]; decide)]
              rw [e1, e2, e3, e8]
              simp)
            have HU := Lib.hid hu
            clear hu no1 no2 no3 no8
            go_enter Tryz.func13, Tryz.ntmps13
            go_wp2_with (first
              | (go_at_call 11; refine cF.mono ?_; rintro e W1 ⟨rfl, hb⟩; clear cF
                 have P1 : Hid (PSt (w.alloc (.cells #[.int .i64 r.freq, .int .i64 r.intv, .int .i64 r.cnt, .bool r.has, .int .i64 r.unt.secs, .bool r.unt.utc, .bool r.unt.date, .slice a1 r.mon.length c1, .slice a2 r.md.length c2, .slice a3 r.dys.length c3, .slice a4 r.pos.length c4, .int .i64 r.wk] 27)) W1 (.slice none 0 0) []) := Lib.hid ⟨hb, World.ownsRow_nil _ _ _ _, by simp⟩
                 clear hb
                 have t0 : W1.cell? ⟨w.heap.size, 0, none⟩ = some (.int .i64 r.freq) := CELL.out W1 P1.out.bel 0 _ rfl
                 have t1 : W1.cell? ⟨w.heap.size, 1, none⟩ = some (.int .i64 1) := (CELL.out W1 P1.out.bel 1 (.int .i64 r.intv) rfl).trans (by rw [E1.out])
                 have t2 : W1.cell? ⟨w.heap.size, 2, none⟩ = some (.int .i64 0) := (CELL.out W1 P1.out.bel 2 (.int .i64 r.cnt) rfl).trans (by rw [E2.out])
                 have t3 : W1.cell? ⟨w.heap.size, 3, none⟩ = some (.bool false) := (CELL.out W1 P1.out.bel 3 (.bool r.has) rfl).trans (by rw [HH.out])
                 have t4 : W1.cell? ⟨w.heap.size, 4, none⟩ = some (.int .i64 r.unt.secs) := CELL.out W1 P1.out.bel 4 _ rfl
                 have t5 : W1.cell? ⟨w.heap.size, 5, none⟩ = some (.bool r.unt.utc) := CELL.out W1 P1.out.bel 5 _ rfl
                 have t6 : W1.cell? ⟨w.heap.size, 6, none⟩ = some (.bool r.unt.date) := CELL.out W1 P1.out.bel 6 _ rfl
                 have t7 : W1.cell? ⟨w.heap.size, 7, none⟩ = some (.slice a1 r.mon.length c1) := CELL.out W1 P1.out.bel 7 _ rfl
                 have t8 : W1.cell? ⟨w.heap.size, 8, none⟩ = some (.slice a2 r.md.length c2) := CELL.out W1 P1.out.bel 8 _ rfl
                 have t9 : W1.cell? ⟨w.heap.size, 9, none⟩ = some (.slice a3 r.dys.length c3) := CELL.out W1 P1.out.bel 9 _ rfl
                 have t10 : W1.cell? ⟨w.heap.size, 10, none⟩ = some (.slice a4 r.pos.length c4) := CELL.out W1 P1.out.bel 10 _ rfl
                 have t11 : W1.cell? ⟨w.heap.size, 11, none⟩ = some (.int .i64 0) := (CELL.out W1 P1.out.bel 11 (.int .i64 r.wk) rfl).trans (by rw [E8.out]))
              | (go_at_call 34; ((with_reducible refine (prn0 r hF w W1 (.slice none 0 0) _ _ HV.out (BW.out W1 P1.out.bel) P1.out.bel.size (by have := P1.out.len; omega) P1.out.own).mono ?_)); rintro e W2 ⟨x2, rfl, ho, hb⟩
                 have P2 : Hid (PSt (w.alloc (.cells #[.int .i64 r.freq, .int .i64 r.intv, .int .i64 r.cnt, .bool r.has, .int .i64 r.unt.secs, .bool r.unt.utc, .bool r.unt.date, .slice a1 r.mon.length c1, .slice a2 r.md.length c2, .slice a3 r.dys.length c3, .slice a4 r.pos.length c4, .int .i64 r.wk] 27)) W2 x2 ([] ++ optK r 0)) := Lib.hid ⟨P1.out.bel.trans ((((Below.refl _ W1).alloc (Nat.le_refl _) _).mono P1.out.bel.size).trans hb), ho, by have := optK_len r 0; have := optK_len r 1; have := optK_len r 2; have := optK_len r 3; have := optK_len r 4; have := optK_len r 5; have := optK_len r 6; have := optK_len r 7; have := optK_len r 8; simp only [List.length_append, List.length_nil]; omega⟩
                 clear hb ho
                 clear t0 t1 t2 t3 t4 t5 t6 t7 t8 t9 t10 t11
                 have t0 : W2.cell? ⟨w.heap.size, 0, none⟩ = some (.int .i64 r.freq) := CELL.out W2 P2.out.bel 0 _ rfl
                 have t1 : W2.cell? ⟨w.heap.size, 1, none⟩ = some (.int .i64 1) := (CELL.out W2 P2.out.bel 1 (.int .i64 r.intv) rfl).trans (by rw [E1.out])
                 have t2 : W2.cell? ⟨w.heap.size, 2, none⟩ = some (.int .i64 0) := (CELL.out W2 P2.out.bel 2 (.int .i64 r.cnt) rfl).trans (by rw [E2.out])
                 have t3 : W2.cell? ⟨w.heap.size, 3, none⟩ = some (.bool false) := (CELL.out W2 P2.out.bel 3 (.bool r.has) rfl).trans (by rw [HH.out])
                 have t4 : W2.cell? ⟨w.heap.size, 4, none⟩ = some (.int .i64 r.unt.secs) := CELL.out W2 P2.out.bel 4 _ rfl
                 have t5 : W2.cell? ⟨w.heap.size, 5, none⟩ = some (.bool r.unt.utc) := CELL.out W2 P2.out.bel 5 _ rfl
                 have t6 : W2.cell? ⟨w.heap.size, 6, none⟩ = some (.bool r.unt.date) := CELL.out W2 P2.out.bel 6 _ rfl
                 have t7 : W2.cell? ⟨w.heap.size, 7, none⟩ = some (.slice a1 r.mon.length c1) := CELL.out W2 P2.out.bel 7 _ rfl
                 have t8 : W2.cell? ⟨w.heap.size, 8, none⟩ = some (.slice a2 r.md.length c2) := CELL.out W2 P2.out.bel 8 _ rfl
                 have t9 : W2.cell? ⟨w.heap.size, 9, none⟩ = some (.slice a3 r.dys.length c3) := CELL.out W2 P2.out.bel 9 _ rfl
                 have t10 : W2.cell? ⟨w.heap.size, 10, none⟩ = some (.slice a4 r.pos.length c4) := CELL.out W2 P2.out.bel 10 _ rfl
                 have t11 : W2.cell? ⟨w.heap.size, 11, none⟩ = some (.int .i64 0) := (CELL.out W2 P2.out.bel 11 (.int .i64 r.wk) rfl).trans (by rw [E8.out]))
              | (go_at_call 34; ((with_reducible refine (prn4 r hF w W2 x2 (.slice a1 r.mon.length c1) _ _ HV.out (BW.out W2 P2.out.bel) P2.out.bel.size (by have := P2.out.len; omega) P2.out.own (HS.out.s1.step (BW.out W2 P2.out.bel))).mono ?_)); rintro e W3 ⟨x3, rfl, ho, hb⟩
                 have P3 : Hid (PSt (w.alloc (.cells #[.int .i64 r.freq, .int .i64 r.intv, .int .i64 r.cnt, .bool r.has, .int .i64 r.unt.secs, .bool r.unt.utc, .bool r.unt.date, .slice a1 r.mon.length c1, .slice a2 r.md.length c2, .slice a3 r.dys.length c3, .slice a4 r.pos.length c4, .int .i64 r.wk] 27)) W3 x3 (([] ++ optK r 0) ++ optK r 4)) := Lib.hid ⟨P2.out.bel.trans hb, ho, by have := optK_len r 0; have := optK_len r 1; have := optK_len r 2; have := optK_len r 3; have := optK_len r 4; have := optK_len r 5; have := optK_len r 6; have := optK_len r 7; have := optK_len r 8; simp only [List.length_append, List.length_nil]; omega⟩
                 clear hb ho
                 clear t0 t1 t2 t3 t4 t5 t6 t7 t8 t9 t10 t11
                 have t0 : W3.cell? ⟨w.heap.size, 0, none⟩ = some (.int .i64 r.freq) := CELL.out W3 P3.out.bel 0 _ rfl
                 have t1 : W3.cell? ⟨w.heap.size, 1, none⟩ = some (.int .i64 1) := (CELL.out W3 P3.out.bel 1 (.int .i64 r.intv) rfl).trans (by rw [E1.out])
                 have t2 : W3.cell? ⟨w.heap.size, 2, none⟩ = some (.int .i64 0) := (CELL.out W3 P3.out.bel 2 (.int .i64 r.cnt) rfl).trans (by rw [E2.out])
                 have t3 : W3.cell? ⟨w.heap.size, 3, none⟩ = some (.bool false) := (CELL.out W3 P3.out.bel 3 (.bool r.has) rfl).trans (by rw [HH.out])
                 have t4 : W3.cell? ⟨w.heap.size, 4, none⟩ = some (.int .i64 r.unt.secs) := CELL.out W3 P3.out.bel 4 _ rfl
                 have t5 : W3.cell? ⟨w.heap.size, 5, none⟩ = some (.bool r.unt.utc) := CELL.out W3 P3.out.bel 5 _ rfl
                 have t6 : W3.cell? ⟨w.heap.size, 6, none⟩ = some (.bool r.unt.date) := CELL.out W3 P3.out.bel 6 _ rfl
                 have t7 : W3.cell? ⟨w.heap.size, 7, none⟩ = some (.slice a1 r.mon.length c1) := CELL.out W3 P3.out.bel 7 _ rfl
                 have t8 : W3.cell? ⟨w.heap.size, 8, none⟩ = some (.slice a2 r.md.length c2) := CELL.out W3 P3.out.bel 8 _ rfl
                 have t9 : W3.cell? ⟨w.heap.size, 9, none⟩ = some (.slice a3 r.dys.length c3) := CELL.out W3 P3.out.bel 9 _ rfl
                 have t10 : W3.cell? ⟨w.heap.size, 10, none⟩ = some (.slice a4 r.pos.length c4) := CELL.out W3 P3.out.bel 10 _ rfl
                 have t11 : W3.cell? ⟨w.heap.size, 11, none⟩ = some (.int .i64 0) := (CELL.out W3 P3.out.bel 11 (.int .i64 r.wk) rfl).trans (by rw [E8.out]))
              | (go_at_call 34; ((with_reducible refine (prn5 r hF w W3 x3 (.slice a2 r.md.length c2) _ _ HV.out (BW.out W3 P3.out.bel) P3.out.bel.size (by have := P3.out.len; omega) P3.out.own (HS.out.s2.step (BW.out W3 P3.out.bel))).mono ?_)); rintro e W4 ⟨x4, rfl, ho, hb⟩
                 have P4 : Hid (PSt (w.alloc (.cells #[.int .i64 r.freq, .int .i64 r.intv, .int .i64 r.cnt, .bool r.has, .int .i64 r.unt.secs, .bool r.unt.utc, .bool r.unt.date, .slice a1 r.mon.length c1, .slice a2 r.md.length c2, .slice a3 r.dys.length c3, .slice a4 r.pos.length c4, .int .i64 r.wk] 27)) W4 x4 ((([] ++ optK r 0) ++ optK r 4) ++ optK r 5)) := Lib.hid ⟨P3.out.bel.trans hb, ho, by have := optK_len r 0; have := optK_len r 1; have := optK_len r 2; have := optK_len r 3; have := optK_len r 4; have := optK_len r 5; have := optK_len r 6; have := optK_len r 7; have := optK_len r 8; simp only [List.length_append, List.length_nil]; omega⟩
                 clear hb ho
                 clear t0 t1 t2 t3 t4 t5 t6 t7 t8 t9 t10 t11
                 have t0 : W4.cell? ⟨w.heap.size, 0, none⟩ = some (.int .i64 r.freq) := CELL.out W4 P4.out.bel 0 _ rfl
                 have t1 : W4.cell? ⟨w.heap.size, 1, none⟩ = some (.int .i64 1) := (CELL.out W4 P4.out.bel 1 (.int .i64 r.intv) rfl).trans (by rw [E1.out])
                 have t2 : W4.cell? ⟨w.heap.size, 2, none⟩ = some (.int .i64 0) := (CELL.out W4 P4.out.bel 2 (.int .i64 r.cnt) rfl).trans (by rw [E2.out])
                 have t3 : W4.cell? ⟨w.heap.size, 3, none⟩ = some (.bool false) := (CELL.out W4 P4.out.bel 3 (.bool r.has) rfl).trans (by rw [HH.out])
                 have t4 : W4.cell? ⟨w.heap.size, 4, none⟩ = some (.int .i64 r.unt.secs) := CELL.out W4 P4.out.bel 4 _ rfl
                 have t5 : W4.cell? ⟨w.heap.size, 5, none⟩ = some (.bool r.unt.utc) := CELL.out W4 P4.out.bel 5 _ rfl
                 have t6 : W4.cell? ⟨w.heap.size, 6, none⟩ = some (.bool r.unt.date) := CELL.out W4 P4.out.bel 6 _ rfl
                 have t7 : W4.cell? ⟨w.heap.size, 7, none⟩ = some (.slice a1 r.mon.length c1) := CELL.out W4 P4.out.bel 7 _ rfl
                 have t8 : W4.cell? ⟨w.heap.size, 8, none⟩ = some (.slice a2 r.md.length c2) := CELL.out W4 P4.out.bel 8 _ rfl
                 have t9 : W4.cell? ⟨w.heap.size, 9, none⟩ = some (.slice a3 r.dys.length c3) := CELL.out W4 P4.out.bel 9 _ rfl
                 have t10 : W4.cell? ⟨w.heap.size, 10, none⟩ = some (.slice a4 r.pos.length c4) := CELL.out W4 P4.out.bel 10 _ rfl
                 have t11 : W4.cell? ⟨w.heap.size, 11, none⟩ = some (.int .i64 0) := (CELL.out W4 P4.out.bel 11 (.int .i64 r.wk) rfl).trans (by rw [E8.out]))
              | (go_at_call 39; ((with_reducible refine (prn6 r hF w W4 x4 (.slice a3 r.dys.length c3) _ _ HV.out (BW.out W4 P4.out.bel) P4.out.bel.size (by have := P4.out.len; omega) P4.out.own (HS.out.s3.step (BW.out W4 P4.out.bel))).mono ?_)); rintro e W5 ⟨x5, rfl, ho, hb⟩
                 have P5 : Hid (PSt (w.alloc (.cells #[.int .i64 r.freq, .int .i64 r.intv, .int .i64 r.cnt, .bool r.has, .int .i64 r.unt.secs, .bool r.unt.utc, .bool r.unt.date, .slice a1 r.mon.length c1, .slice a2 r.md.length c2, .slice a3 r.dys.length c3, .slice a4 r.pos.length c4, .int .i64 r.wk] 27)) W5 x5 (((([] ++ optK r 0) ++ optK r 4) ++ optK r 5) ++ optK r 6)) := Lib.hid ⟨P4.out.bel.trans hb, ho, by have := optK_len r 0; have := optK_len r 1; have := optK_len r 2; have := optK_len r 3; have := optK_len r 4; have := optK_len r 5; have := optK_len r 6; have := optK_len r 7; have := optK_len r 8; simp only [List.length_append, List.length_nil]; omega⟩
                 clear hb ho
                 clear t0 t1 t2 t3 t4 t5 t6 t7 t8 t9 t10 t11
                 have t0 : W5.cell? ⟨w.heap.size, 0, none⟩ = some (.int .i64 r.freq) := CELL.out W5 P5.out.bel 0 _ rfl
                 have t1 : W5.cell? ⟨w.heap.size, 1, none⟩ = some (.int .i64 1) := (CELL.out W5 P5.out.bel 1 (.int .i64 r.intv) rfl).trans (by rw [E1.out])
                 have t2 : W5.cell? ⟨w.heap.size, 2, none⟩ = some (.int .i64 0) := (CELL.out W5 P5.out.bel 2 (.int .i64 r.cnt) rfl).trans (by rw [E2.out])
                 have t3 : W5.cell? ⟨w.heap.size, 3, none⟩ = some (.bool false) := (CELL.out W5 P5.out.bel 3 (.bool r.has) rfl).trans (by rw [HH.out])
                 have t4 : W5.cell? ⟨w.heap.size, 4, none⟩ = some (.int .i64 r.unt.secs) := CELL.out W5 P5.out.bel 4 _ rfl
                 have t5 : W5.cell? ⟨w.heap.size, 5, none⟩ = some (.bool r.unt.utc) := CELL.out W5 P5.out.bel 5 _ rfl
                 have t6 : W5.cell? ⟨w.heap.size, 6, none⟩ = some (.bool r.unt.date) := CELL.out W5 P5.out.bel 6 _ rfl
                 have t7 : W5.cell? ⟨w.heap.size, 7, none⟩ = some (.slice a1 r.mon.length c1) := CELL.out W5 P5.out.bel 7 _ rfl
                 have t8 : W5.cell? ⟨w.heap.size, 8, none⟩ = some (.slice a2 r.md.length c2) := CELL.out W5 P5.out.bel 8 _ rfl
                 have t9 : W5.cell? ⟨w.heap.size, 9, none⟩ = some (.slice a3 r.dys.length c3) := CELL.out W5 P5.out.bel 9 _ rfl
                 have t10 : W5.cell? ⟨w.heap.size, 10, none⟩ = some (.slice a4 r.pos.length c4) := CELL.out W5 P5.out.bel 10 _ rfl
                 have t11 : W5.cell? ⟨w.heap.size, 11, none⟩ = some (.int .i64 0) := (CELL.out W5 P5.out.bel 11 (.int .i64 r.wk) rfl).trans (by rw [E8.out]))
              | (go_at_call 34; ((with_reducible refine (prn7 r hF w W5 x5 (.slice a4 r.pos.length c4) _ _ HV.out (BW.out W5 P5.out.bel) P5.out.bel.size (by have := P5.out.len; omega) P5.out.own (HS.out.s4.step (BW.out W5 P5.out.bel))).mono ?_)); rintro e W6 ⟨x6, rfl, ho, hb⟩
                 have P6 : Hid (PSt (w.alloc (.cells #[.int .i64 r.freq, .int .i64 r.intv, .int .i64 r.cnt, .bool r.has, .int .i64 r.unt.secs, .bool r.unt.utc, .bool r.unt.date, .slice a1 r.mon.length c1, .slice a2 r.md.length c2, .slice a3 r.dys.length c3, .slice a4 r.pos.length c4, .int .i64 r.wk] 27)) W6 x6 ((((([] ++ optK r 0) ++ optK r 4) ++ optK r 5) ++ optK r 6) ++ optK r 7)) := Lib.hid ⟨P5.out.bel.trans hb, ho, by have := optK_len r 0; have := optK_len r 1; have := optK_len r 2; have := optK_len r 3; have := optK_len r 4; have := optK_len r 5; have := optK_len r 6; have := optK_len r 7; have := optK_len r 8; simp only [List.length_append, List.length_nil]; omega⟩
                 clear hb ho
                 clear t0 t1 t2 t3 t4 t5 t6 t7 t8 t9 t10 t11
                 have t0 : W6.cell? ⟨w.heap.size, 0, none⟩ = some (.int .i64 r.freq) := CELL.out W6 P6.out.bel 0 _ rfl
                 have t1 : W6.cell? ⟨w.heap.size, 1, none⟩ = some (.int .i64 1) := (CELL.out W6 P6.out.bel 1 (.int .i64 r.intv) rfl).trans (by rw [E1.out])
                 have t2 : W6.cell? ⟨w.heap.size, 2, none⟩ = some (.int .i64 0) := (CELL.out W6 P6.out.bel 2 (.int .i64 r.cnt) rfl).trans (by rw [E2.out])
                 have t3 : W6.cell? ⟨w.heap.size, 3, none⟩ = some (.bool false) := (CELL.out W6 P6.out.bel 3 (.bool r.has) rfl).trans (by rw [HH.out])
                 have t4 : W6.cell? ⟨w.heap.size, 4, none⟩ = some (.int .i64 r.unt.secs) := CELL.out W6 P6.out.bel 4 _ rfl
                 have t5 : W6.cell? ⟨w.heap.size, 5, none⟩ = some (.bool r.unt.utc) := CELL.out W6 P6.out.bel 5 _ rfl
                 have t6 : W6.cell? ⟨w.heap.size, 6, none⟩ = some (.bool r.unt.date) := CELL.out W6 P6.out.bel 6 _ rfl
                 have t7 : W6.cell? ⟨w.heap.size, 7, none⟩ = some (.slice a1 r.mon.length c1) := CELL.out W6 P6.out.bel 7 _ rfl
                 have t8 : W6.cell? ⟨w.heap.size, 8, none⟩ = some (.slice a2 r.md.length c2) := CELL.out W6 P6.out.bel 8 _ rfl
                 have t9 : W6.cell? ⟨w.heap.size, 9, none⟩ = some (.slice a3 r.dys.length c3) := CELL.out W6 P6.out.bel 9 _ rfl
                 have t10 : W6.cell? ⟨w.heap.size, 10, none⟩ = some (.slice a4 r.pos.length c4) := CELL.out W6 P6.out.bel 10 _ rfl
                 have t11 : W6.cell? ⟨w.heap.size, 11, none⟩ = some (.int .i64 0) := (CELL.out W6 P6.out.bel 11 (.int .i64 r.wk) rfl).trans (by rw [E8.out]))
              | (go_at_call 42; refine (joinP P6.out (by rw [← HPS.out]; exact partsV_ne r) (by rw [← HPS.out]; exact parts_max hF)).mono ?_; rintro e W9 ⟨rfl, hb⟩; have HB9 := Lib.hid (BW.out _ (P6.out.bel.trans (hb.mono P6.out.bel.size))); clear hb))
            go_ret
            exact ⟨by rw [HP.out, HPS.out]; first | rfl | simp, HB9.out⟩
          · have hx8 := no8
            rw [no8] at b8
            clear no8
            have HPS : Hid (partsV r = (((((([] ++ optK r 0) ++ optK r 4) ++ optK r 5) ++ optK r 6) ++ optK r 7) ++ optK r 8)) := Lib.hid (by
              rw [partsV_is]
              have e1 : optK r 1 = [] := by unfold optK; rw [if_neg (by rw [no1]; decide)]
              have e2 : optK r 2 = [] := by unfold optK; rw [if_neg (by rw [no2]; decide)]
              have e3 : optK r 3 = [] := by unfold optK; rw [if_neg (by rw [no3]; decide)]
              rw [e1, e2, e3]
              simp)
            have HX8 := Lib.hid hx8
            have HU := Lib.hid hu
            clear hu no1 no2 no3 hx8
            go_enter Tryz.func13, Tryz.ntmps13
            go_wp2_with (first
              | (go_at_call 11; refine cF.mono ?_; rintro e W1 ⟨rfl, hb⟩; clear cF
                 have P1 : Hid (PSt (w.alloc (.cells #[.int .i64 r.freq, .int .i64 r.intv, .int .i64 r.cnt, .bool r.has, .int .i64 r.unt.secs, .bool r.unt.utc, .bool r.unt.date, .slice a1 r.mon.length c1, .slice a2 r.md.length c2, .slice a3 r.dys.length c3, .slice a4 r.pos.length c4, .int .i64 r.wk] 27)) W1 (.slice none 0 0) []) := Lib.hid ⟨hb, World.ownsRow_nil _ _ _ _, by simp⟩
                 clear hb
                 have t0 : W1.cell? ⟨w.heap.size, 0, none⟩ = some (.int .i64 r.freq) := CELL.out W1 P1.out.bel 0 _ rfl
                 have t1 : W1.cell? ⟨w.heap.size, 1, none⟩ = some (.int .i64 1) := (CELL.out W1 P1.out.bel 1 (.int .i64 r.intv) rfl).trans (by rw [E1.out])
                 have t2 : W1.cell? ⟨w.heap.size, 2, none⟩ = some (.int .i64 0) := (CELL.out W1 P1.out.bel 2 (.int .i64 r.cnt) rfl).trans (by rw [E2.out])
                 have t3 : W1.cell? ⟨w.heap.size, 3, none⟩ = some (.bool false) := (CELL.out W1 P1.out.bel 3 (.bool r.has) rfl).trans (by rw [HH.out])
                 have t4 : W1.cell? ⟨w.heap.size, 4, none⟩ = some (.int .i64 r.unt.secs) := CELL.out W1 P1.out.bel 4 _ rfl
                 have t5 : W1.cell? ⟨w.heap.size, 5, none⟩ = some (.bool r.unt.utc) := CELL.out W1 P1.out.bel 5 _ rfl
                 have t6 : W1.cell? ⟨w.heap.size, 6, none⟩ = some (.bool r.unt.date) := CELL.out W1 P1.out.bel 6 _ rfl
                 have t7 : W1.cell? ⟨w.heap.size, 7, none⟩ = some (.slice a1 r.mon.length c1) := CELL.out W1 P1.out.bel 7 _ rfl
                 have t8 : W1.cell? ⟨w.heap.size, 8, none⟩ = some (.slice a2 r.md.length c2) := CELL.out W1 P1.out.bel 8 _ rfl
                 have t9 : W1.cell? ⟨w.heap.size, 9, none⟩ = some (.slice a3 r.dys.length c3) := CELL.out W1 P1.out.bel 9 _ rfl
                 have t10 : W1.cell? ⟨w.heap.size, 10, none⟩ = some (.slice a4 r.pos.length c4) := CELL.out W1 P1.out.bel 10 _ rfl
                 have t11 : W1.cell? ⟨w.heap.size, 11, none⟩ = some (.int .i64 r.wk) := CELL.out W1 P1.out.bel 11 _ rfl)
              | (go_at_call 34; ((with_reducible refine (prn0 r hF w W1 (.slice none 0 0) _ _ HV.out (BW.out W1 P1.out.bel) P1.out.bel.size (by have := P1.out.len; omega) P1.out.own).mono ?_)); rintro e W2 ⟨x2, rfl, ho, hb⟩
                 have P2 : Hid (PSt (w.alloc (.cells #[.int .i64 r.freq, .int .i64 r.intv, .int .i64 r.cnt, .bool r.has, .int .i64 r.unt.secs, .bool r.unt.utc, .bool r.unt.date, .slice a1 r.mon.length c1, .slice a2 r.md.length c2, .slice a3 r.dys.length c3, .slice a4 r.pos.length c4, .int .i64 r.wk] 27)) W2 x2 ([] ++ optK r 0)) := Lib.hid ⟨P1.out.bel.trans ((((Below.refl _ W1).alloc (Nat.le_refl _) _).mono P1.out.bel.size).trans hb), ho, by have := optK_len r 0; have := optK_len r 1; have := optK_len r 2; have := optK_len r 3; have := optK_len r 4; have := optK_len r 5; have := optK_len r 6; have := optK_len r 7; have := optK_len r 8; simp only [List.length_append, List.length_nil]; omega⟩
                 clear hb ho
                 clear t0 t1 t2 t3 t4 t5 t6 t7 t8 t9 t10 t11
                 have t0 : W2.cell? ⟨w.heap.size, 0, none⟩ = some (.int .i64 r.freq) := CELL.out W2 P2.out.bel 0 _ rfl
                 have t1 : W2.cell? ⟨w.heap.size, 1, none⟩ = some (.int .i64 1) := (CELL.out W2 P2.out.bel 1 (.int .i64 r.intv) rfl).trans (by rw [E1.out])
                 have t2 : W2.cell? ⟨w.heap.size, 2, none⟩ = some (.int .i64 0) := (CELL.out W2 P2.out.bel 2 (.int .i64 r.cnt) rfl).trans (by rw [E2.out])
                 have t3 : W2.cell? ⟨w.heap.size, 3, none⟩ = some (.bool false) := (CELL.out W2 P2.out.bel 3 (.bool r.has) rfl).trans (by rw [HH.out])
                 have t4 : W2.cell? ⟨w.heap.size, 4, none⟩ = some (.int .i64 r.unt.secs) := CELL.out W2 P2.out.bel 4 _ rfl
                 have t5 : W2.cell? ⟨w.heap.size, 5, none⟩ = some (.bool r.unt.utc) := CELL.out W2 P2.out.bel 5 _ rfl
                 have t6 : W2.cell? ⟨w.heap.size, 6, none⟩ = some (.bool r.unt.date) := CELL.out W2 P2.out.bel 6 _ rfl
                 have t7 : W2.cell? ⟨w.heap.size, 7, none⟩ = some (.slice a1 r.mon.length c1) := CELL.out W2 P2.out.bel 7 _ rfl
                 have t8 : W2.cell? ⟨w.heap.size, 8, none⟩ = some (.slice a2 r.md.length c2) := CELL.out W2 P2.out.bel 8 _ rfl
                 have t9 : W2.cell? ⟨w.heap.size, 9, none⟩ = some (.slice a3 r.dys.length c3) := CELL.out W2 P2.out.bel 9 _ rfl
                 have t10 : W2.cell? ⟨w.heap.size, 10, none⟩ = some (.slice a4 r.pos.length c4) := CELL.out W2 P2.out.bel 10 _ rfl
                 have t11 : W2.cell? ⟨w.heap.size, 11, none⟩ = some (.int .i64 r.wk) := CELL.out W2 P2.out.bel 11 _ rfl)
              | (go_at_call 34; ((with_reducible refine (prn4 r hF w W2 x2 (.slice a1 r.mon.length c1) _ _ HV.out (BW.out W2 P2.out.bel) P2.out.bel.size (by have := P2.out.len; omega) P2.out.own (HS.out.s1.step (BW.out W2 P2.out.bel))).mono ?_)); rintro e W3 ⟨x3, rfl, ho, hb⟩
                 have P3 : Hid (PSt (w.alloc (.cells #[.int .i64 r.freq, .int .i64 r.intv, .int .i64 r.cnt, .bool r.has, .int .i64 r.unt.secs, .bool r.unt.utc, .bool r.unt.date, .slice a1 r.mon.length c1, .slice a2 r.md.length c2, .slice a3 r.dys.length c3, .slice a4 r.pos.length c4, .int .i64 r.wk] 27)) W3 x3 (([] ++ optK r 0) ++ optK r 4)) := Lib.hid ⟨P2.out.bel.trans hb, ho, by have := optK_len r 0; have := optK_len r 1; have := optK_len r 2; have := optK_len r 3; have := optK_len r 4; have := optK_len r 5; have := optK_len r 6; have := optK_len r 7; have := optK_len r 8; simp only [List.length_append, List.length_nil]; omega⟩
                 clear hb ho
                 clear t0 t1 t2 t3 t4 t5 t6 t7 t8 t9 t10 t11
                 have t0 : W3.cell? ⟨w.heap.size, 0, none⟩ = some (.int .i64 r.freq) := CELL.out W3 P3.out.bel 0 _ rfl
                 have t1 : W3.cell? ⟨w.heap.size, 1, none⟩ = some (.int .i64 1) := (CELL.out W3 P3.out.bel 1 (.int .i64 r.intv) rfl).trans (by rw [E1.out])
                 have t2 : W3.cell? ⟨w.heap.size, 2, none⟩ = some (.int .i64 0) := (CELL.out W3 P3.out.bel 2 (.int .i64 r.cnt) rfl).trans (by rw [E2.out])
                 have t3 : W3.cell? ⟨w.heap.size, 3, none⟩ = some (.bool false) := (CELL.out W3 P3.out.bel 3 (.bool r.has) rfl).trans (by rw [HH.out])
                 have t4 : W3.cell? ⟨w.heap.size, 4, none⟩ = some (.int .i64 r.unt.secs) := CELL.out W3 P3.out.bel 4 _ rfl
                 have t5 : W3.cell? ⟨w.heap.size, 5, none⟩ = some (.bool r.unt.utc) := CELL.out W3 P3.out.bel 5 _ rfl
                 have t6 : W3.cell? ⟨w.heap.size, 6, none⟩ = some (.bool r.unt.date) := CELL.out W3 P3.out.bel 6 _ rfl
                 have t7 : W3.cell? ⟨w.heap.size, 7, none⟩ = some (.slice a1 r.mon.length c1) := CELL.out W3 P3.out.bel 7 _ rfl
                 have t8 : W3.cell? ⟨w.heap.size, 8, none⟩ = some (.slice a2 r.md.length c2) := CELL.out W3 P3.out.bel 8 _ rfl
                 have t9 : W3.cell? ⟨w.heap.size, 9, none⟩ = some (.slice a3 r.dys.length c3) := CELL.out W3 P3.out.bel 9 _ rfl
                 have t10 : W3.cell? ⟨w.heap.size, 10, none⟩ = some (.slice a4 r.pos.length c4) := CELL.out W3 P3.out.bel 10 _ rfl
                 have t11 : W3.cell? ⟨w.heap.size, 11, none⟩ = some (.int .i64 r.wk) := CELL.out W3 P3.out.bel 11 _ rfl)
              | (go_at_call 34; ((with_reducible refine (prn5 r hF w W3 x3 (.slice a2 r.md.length c2) _ _ HV.out (BW.out W3 P3.out.bel) P3.out.bel.size (by have := P3.out.len; omega) P3.out.own (HS.out.s2.step (BW.out W3 P3.out.bel))).mono ?_)); rintro e W4 ⟨x4, rfl, ho, hb⟩
                 have P4 : Hid (PSt (w.alloc (.cells #[.int .i64 r.freq, .int .i64 r.intv, .int .i64 r.cnt, .bool r.has, .int .i64 r.unt.secs, .bool r.unt.utc, .bool r.unt.date, .slice a1 r.mon.length c1, .slice a2 r.md.length c2, .slice a3 r.dys.length c3, .slice a4 r.pos.length c4, .int .i64 r.wk] 27)) W4 x4 ((([] ++ optK r 0) ++ optK r 4) ++ optK r 5)) := Lib.hid ⟨P3.out.bel.trans hb, ho, by have := optK_len r 0; have := optK_len r 1; have := optK_len r 2; have := optK_len r 3; have := optK_len r 4; have := optK_len r 5; have := optK_len r 6; have := optK_len r 7; have := optK_len r 8; simp only [List.length_append, List.length_nil]; omega⟩
                 clear hb ho
                 clear t0 t1 t2 t3 t4 t5 t6 t7 t8 t9 t10 t11
                 have t0 : W4.cell? ⟨w.heap.size, 0, none⟩ = some (.int .i64 r.freq) := CELL.out W4 P4.out.bel 0 _ rfl
                 have t1 : W4.cell? ⟨w.heap.size, 1, none⟩ = some (.int .i64 1) := (CELL.out W4 P4.out.bel 1 (.int .i64 r.intv) rfl).trans (by rw [E1.out])
                 have t2 : W4.cell? ⟨w.heap.size, 2, none⟩ = some (.int .i64 0) := (CELL.out W4 P4.out.bel 2 (.int .i64 r.cnt) rfl).trans (by rw [E2.out])
                 have t3 : W4.cell? ⟨w.heap.size, 3, none⟩ = some (.bool false) := (CELL.out W4 P4.out.bel 3 (.bool r.has) rfl).trans (by rw [HH.out])
                 have t4 : W4.cell? ⟨w.heap.size, 4, none⟩ = some (.int .i64 r.unt.secs) := CELL.out W4 P4.out.bel 4 _ rfl
                 have t5 : W4.cell? ⟨w.heap.size, 5, none⟩ = some (.bool r.unt.utc) := CELL.out W4 P4.out.bel 5 _ rfl
                 have t6 : W4.cell? ⟨w.heap.size, 6, none⟩ = some (.bool r.unt.date) := CELL.out W4 P4.out.bel 6 _ rfl
                 have t7 : W4.cell? ⟨w.heap.size, 7, none⟩ = some (.slice a1 r.mon.length c1) := CELL.out W4 P4.out.bel 7 _ rfl
                 have t8 : W4.cell? ⟨w.heap.size, 8, none⟩ = some (.slice a2 r.md.length c2) := CELL.out W4 P4.out.bel 8 _ rfl
                 have t9 : W4.cell? ⟨w.heap.size, 9, none⟩ = some (.slice a3 r.dys.length c3) := CELL.out W4 P4.out.bel 9 _ rfl
                 have t10 : W4.cell? ⟨w.heap.size, 10, none⟩ = some (.slice a4 r.pos.length c4) := CELL.out W4 P4.out.bel 10 _ rfl
                 have t11 : W4.cell? ⟨w.heap.size, 11, none⟩ = some (.int .i64 r.wk) := CELL.out W4 P4.out.bel 11 _ rfl)
              | (go_at_call 39; ((with_reducible refine (prn6 r hF w W4 x4 (.slice a3 r.dys.length c3) _ _ HV.out (BW.out W4 P4.out.bel) P4.out.bel.size (by have := P4.out.len; omega) P4.out.own (HS.out.s3.step (BW.out W4 P4.out.bel))).mono ?_)); rintro e W5 ⟨x5, rfl, ho, hb⟩
                 have P5 : Hid (PSt (w.alloc (.cells #[.int .i64 r.freq, .int .i64 r.intv, .int .i64 r.cnt, .bool r.has, .int .i64 r.unt.secs, .bool r.unt.utc, .bool r.unt.date, .slice a1 r.mon.length c1, .slice a2 r.md.length c2, .slice a3 r.dys.length c3, .slice a4 r.pos.length c4, .int .i64 r.wk] 27)) W5 x5 (((([] ++ optK r 0) ++ optK r 4) ++ optK r 5) ++ optK r 6)) := Lib.hid ⟨P4.out.bel.trans hb, ho, by have := optK_len r 0; have := optK_len r 1; have := optK_len r 2; have := optK_len r 3; have := optK_len r 4; have := optK_len r 5; have := optK_len r 6; have := optK_len r 7; have := optK_len r 8; simp only [List.length_append, List.length_nil]; omega⟩
                 clear hb ho
                 clear t0 t1 t2 t3 t4 t5 t6 t7 t8 t9 t10 t11
                 have t0 : W5.cell? ⟨w.heap.size, 0, none⟩ = some (.int .i64 r.freq) := CELL.out W5 P5.out.bel 0 _ rfl
                 have t1 : W5.cell? ⟨w.heap.size, 1, none⟩ = some (.int .i64 1) := (CELL.out W5 P5.out.bel 1 (.int .i64 r.intv) rfl).trans (by rw [E1.out])
                 have t2 : W5.cell? ⟨w.heap.size, 2, none⟩ = some (.int .i64 0) := (CELL.out W5 P5.out.bel 2 (.int .i64 r.cnt) rfl).trans (by rw [E2.out])
                 have t3 : W5.cell? ⟨w.heap.size, 3, none⟩ = some (.bool false) := (CELL.out W5 P5.out.bel 3 (.bool r.has) rfl).trans (by rw [HH.out])
                 have t4 : W5.cell? ⟨w.heap.size, 4, none⟩ = some (.int .i64 r.unt.secs) := CELL.out W5 P5.out.bel 4 _ rfl
                 have t5 : W5.cell? ⟨w.heap.size, 5, none⟩ = some (.bool r.unt.utc) := CELL.out W5 P5.out.bel 5 _ rfl
                 have t6 : W5.cell? ⟨w.heap.size, 6, none⟩ = some (.bool r.unt.date) := CELL.out W5 P5.out.bel 6 _ rfl
                 have t7 : W5.cell? ⟨w.heap.size, 7, none⟩ = some (.slice a1 r.mon.length c1) := CELL.out W5 P5.out.bel 7 _ rfl
                 have t8 : W5.cell? ⟨w.heap.size, 8, none⟩ = some (.slice a2 r.md.length c2) := CELL.out W5 P5.out.bel 8 _ rfl
                 have t9 : W5.cell? ⟨w.heap.size, 9, none⟩ = some (.slice a3 r.dys.length c3) := CELL.out W5 P5.out.bel 9 _ rfl
                 have t10 : W5.cell? ⟨w.heap.size, 10, none⟩ = some (.slice a4 r.pos.length c4) := CELL.out W5 P5.out.bel 10 _ rfl
                 have t11 : W5.cell? ⟨w.heap.size, 11, none⟩ = some (.int .i64 r.wk) := CELL.out W5 P5.out.bel 11 _ rfl)
              | (go_at_call 34; ((with_reducible refine (prn7 r hF w W5 x5 (.slice a4 r.pos.length c4) _ _ HV.out (BW.out W5 P5.out.bel) P5.out.bel.size (by have := P5.out.len; omega) P5.out.own (HS.out.s4.step (BW.out W5 P5.out.bel))).mono ?_)); rintro e W6 ⟨x6, rfl, ho, hb⟩
                 have P6 : Hid (PSt (w.alloc (.cells #[.int .i64 r.freq, .int .i64 r.intv, .int .i64 r.cnt, .bool r.has, .int .i64 r.unt.secs, .bool r.unt.utc, .bool r.unt.date, .slice a1 r.mon.length c1, .slice a2 r.md.length c2, .slice a3 r.dys.length c3, .slice a4 r.pos.length c4, .int .i64 r.wk] 27)) W6 x6 ((((([] ++ optK r 0) ++ optK r 4) ++ optK r 5) ++ optK r 6) ++ optK r 7)) := Lib.hid ⟨P5.out.bel.trans hb, ho, by have := optK_len r 0; have := optK_len r 1; have := optK_len r 2; have := optK_len r 3; have := optK_len r 4; have := optK_len r 5; have := optK_len r 6; have := optK_len r 7; have := optK_len r 8; simp only [List.length_append, List.length_nil]; omega⟩
                 clear hb ho
                 clear t0 t1 t2 t3 t4 t5 t6 t7 t8 t9 t10 t11
                 have t0 : W6.cell? ⟨w.heap.size, 0, none⟩ = some (.int .i64 r.freq) := CELL.out W6 P6.out.bel 0 _ rfl
                 have t1 : W6.cell? ⟨w.heap.size, 1, none⟩ = some (.int .i64 1) := (CELL.out W6 P6.out.bel 1 (.int .i64 r.intv) rfl).trans (by rw [E1.out])
                 have t2 : W6.cell? ⟨w.heap.size, 2, none⟩ = some (.int .i64 0) := (CELL.out W6 P6.out.bel 2 (.int .i64 r.cnt) rfl).trans (by rw [E2.out])
                 have t3 : W6.cell? ⟨w.heap.size, 3, none⟩ = some (.bool false) := (CELL.out W6 P6.out.bel 3 (.bool r.has) rfl).trans (by rw [HH.out])
                 have t4 : W6.cell? ⟨w.heap.size, 4, none⟩ = some (.int .i64 r.unt.secs) := CELL.out W6 P6.out.bel 4 _ rfl
                 have t5 : W6.cell? ⟨w.heap.size, 5, none⟩ = some (.bool r.unt.utc) := CELL.out W6 P6.out.bel 5 _ rfl
                 have t6 : W6.cell? ⟨w.heap.size, 6, none⟩ = some (.bool r.unt.date) := CELL.out W6 P6.out.bel 6 _ rfl
                 have t7 : W6.cell? ⟨w.heap.size, 7, none⟩ = some (.slice a1 r.mon.length c1) := CELL.out W6 P6.out.bel 7 _ rfl
                 have t8 : W6.cell? ⟨w.heap.size, 8, none⟩ = some (.slice a2 r.md.length c2) := CELL.out W6 P6.out.bel 8 _ rfl
                 have t9 : W6.cell? ⟨w.heap.size, 9, none⟩ = some (.slice a3 r.dys.length c3) := CELL.out W6 P6.out.bel 9 _ rfl
                 have t10 : W6.cell? ⟨w.heap.size, 10, none⟩ = some (.slice a4 r.pos.length c4) := CELL.out W6 P6.out.bel 10 _ rfl
                 have t11 : W6.cell? ⟨w.heap.size, 11, none⟩ = some (.int .i64 r.wk) := CELL.out W6 P6.out.bel 11 _ rfl)
              | (go_at_call 34; ((with_reducible refine (prn8 r hF HX8.out w W6 x6 _ _ HV.out (BW.out W6 P6.out.bel) P6.out.bel.size (by have := P6.out.len; omega) P6.out.own).mono ?_)); rintro e W7 ⟨x7, rfl, ho, hb⟩
                 have P7 : Hid (PSt (w.alloc (.cells #[.int .i64 r.freq, .int .i64 r.intv, .int .i64 r.cnt, .bool r.has, .int .i64 r.unt.secs, .bool r.unt.utc, .bool r.unt.date, .slice a1 r.mon.length c1, .slice a2 r.md.length c2, .slice a3 r.dys.length c3, .slice a4 r.pos.length c4, .int .i64 r.wk] 27)) W7 x7 (((((([] ++ optK r 0) ++ optK r 4) ++ optK r 5) ++ optK r 6) ++ optK r 7) ++ optK r 8)) := Lib.hid ⟨P6.out.bel.trans ((((Below.refl _ W6).alloc (Nat.le_refl _) _).mono P6.out.bel.size).trans hb), ho, by have := optK_len r 0; have := optK_len r 1; have := optK_len r 2; have := optK_len r 3; have := optK_len r 4; have := optK_len r 5; have := optK_len r 6; have := optK_len r 7; have := optK_len r 8; simp only [List.length_append, List.length_nil]; omega⟩
                 clear hb ho
                 clear t0 t1 t2 t3 t4 t5 t6 t7 t8 t9 t10 t11
                 have t0 : W7.cell? ⟨w.heap.size, 0, none⟩ = some (.int .i64 r.freq) := CELL.out W7 P7.out.bel 0 _ rfl
                 have t1 : W7.cell? ⟨w.heap.size, 1, none⟩ = some (.int .i64 1) := (CELL.out W7 P7.out.bel 1 (.int .i64 r.intv) rfl).trans (by rw [E1.out])
                 have t2 : W7.cell? ⟨w.heap.size, 2, none⟩ = some (.int .i64 0) := (CELL.out W7 P7.out.bel 2 (.int .i64 r.cnt) rfl).trans (by rw [E2.out])
                 have t3 : W7.cell? ⟨w.heap.size, 3, none⟩ = some (.bool false) := (CELL.out W7 P7.out.bel 3 (.bool r.has) rfl).trans (by rw [HH.out])
                 have t4 : W7.cell? ⟨w.heap.size, 4, none⟩ = some (.int .i64 r.unt.secs) := CELL.out W7 P7.out.bel 4 _ rfl
                 have t5 : W7.cell? ⟨w.heap.size, 5, none⟩ = some (.bool r.unt.utc) := CELL.out W7 P7.out.bel 5 _ rfl
                 have t6 : W7.cell? ⟨w.heap.size, 6, none⟩ = some (.bool r.unt.date) := CELL.out W7 P7.out.bel 6 _ rfl
                 have t7 : W7.cell? ⟨w.heap.size, 7, none⟩ = some (.slice a1 r.mon.length c1) := CELL.out W7 P7.out.bel 7 _ rfl
                 have t8 : W7.cell? ⟨w.heap.size, 8, none⟩ = some (.slice a2 r.md.length c2) := CELL.out W7 P7.out.bel 8 _ rfl
                 have t9 : W7.cell? ⟨w.heap.size, 9, none⟩ = some (.slice a3 r.dys.length c3) := CELL.out W7 P7.out.bel 9 _ rfl
                 have t10 : W7.cell? ⟨w.heap.size, 10, none⟩ = some (.slice a4 r.pos.length c4) := CELL.out W7 P7.out.bel 10 _ rfl
                 have t11 : W7.cell? ⟨w.heap.size, 11, none⟩ = some (.int .i64 r.wk) := CELL.out W7 P7.out.bel 11 _ rfl)
              | (go_at_call 42; refine (joinP P7.out (by rw [← HPS.out]; exact partsV_ne r) (by rw [← HPS.out]; exact parts_max hF)).mono ?_; rintro e W9 ⟨rfl, hb⟩; have HB9 := Lib.hid (BW.out _ (P7.out.bel.trans (hb.mono P7.out.bel.size))); clear hb))
            go_ret
            exact ⟨by rw [HP.out, HPS.out]; first | rfl | simp, HB9.out⟩
        · have hx2 := no2
          rw [no2] at b2
          clear no2
          cases no8 : hasK r 8
          · have E8 := Lib.hid (show r.wk = 0 by simpa [hasK] using no8)
            clear b8
            have HPS : Hid (partsV r = (((((([] ++ optK r 0) ++ optK r 2) ++ optK r 4) ++ optK r 5) ++ optK r 6) ++ optK r 7)) := Lib.hid (by
              rw [partsV_is]
              have e1 : optK r 1 = [] := by unfold optK; rw [if_neg (by rw [no1]; decide)]
              have e3 : optK r 3 = [] := by unfold optK; rw [if_neg (by rw [no3]; decide)]
              have e8 : optK r 8 = [] := by unfold optK; rw [if_neg (by rw [no8]; decide)]
              rw [e1, e3, e8]
              simp)
            have HX2 := Lib.hid hx2
            have HU := Lib.hid hu
            clear hu no1 no3 no8 hx2
            go_enter Tryz.func13, Tryz.ntmps13
            go_wp2_with (first
              | (go_at_call 11; refine cF.mono ?_; rintro e W1 ⟨rfl, hb⟩; clear cF
                 have P1 : Hid (PSt (w.alloc (.cells #[.int .i64 r.freq, .int .i64 r.intv, .int .i64 r.cnt, .bool r.has, .int .i64 r.unt.secs, .bool r.unt.utc, .bool r.unt.date, .slice a1 r.mon.length c1, .slice a2 r.md.length c2, .slice a3 r.dys.length c3, .slice a4 r.pos.length c4, .int .i64 r.wk] 27)) W1 (.slice none 0 0) []) := Lib.hid ⟨hb, World.ownsRow_nil _ _ _ _, by simp⟩
                 clear hb
                 have t0 : W1.cell? ⟨w.heap.size, 0, none⟩ = some (.int .i64 r.freq) := CELL.out W1 P1.out.bel 0 _ rfl
                 have t1 : W1.cell? ⟨w.heap.size, 1, none⟩ = some (.int .i64 1) := (CELL.out W1 P1.out.bel 1 (.int .i64 r.intv) rfl).trans (by rw [E1.out])
                 have t2 : W1.cell? ⟨w.heap.size, 2, none⟩ = some (.int .i64 r.cnt) := CELL.out W1 P1.out.bel 2 _ rfl
                 have t3 : W1.cell? ⟨w.heap.size, 3, none⟩ = some (.bool false) := (CELL.out W1 P1.out.bel 3 (.bool r.has) rfl).trans (by rw [HH.out])
                 have t4 : W1.cell? ⟨w.heap.size, 4, none⟩ = some (.int .i64 r.unt.secs) := CELL.out W1 P1.out.bel 4 _ rfl
                 have t5 : W1.cell? ⟨w.heap.size, 5, none⟩ = some (.bool r.unt.utc) := CELL.out W1 P1.out.bel 5 _ rfl
                 have t6 : W1.cell? ⟨w.heap.size, 6, none⟩ = some (.bool r.unt.date) := CELL.out W1 P1.out.bel 6 _ rfl
                 have t7 : W1.cell? ⟨w.heap.size, 7, none⟩ = some (.slice a1 r.mon.length c1) := CELL.out W1 P1.out.bel 7 _ rfl
                 have t8 : W1.cell? ⟨w.heap.size, 8, none⟩ = some (.slice a2 r.md.length c2) := CELL.out W1 P1.out.bel 8 _ rfl
                 have t9 : W1.cell? ⟨w.heap.size, 9, none⟩ = some (.slice a3 r.dys.length c3) := CELL.out W1 P1.out.bel 9 _ rfl
                 have t10 : W1.cell? ⟨w.heap.size, 10, none⟩ = some (.slice a4 r.pos.length c4) := CELL.out W1 P1.out.bel 10 _ rfl
                 have t11 : W1.cell? ⟨w.heap.size, 11, none⟩ = some (.int .i64 0) := (CELL.out W1 P1.out.bel 11 (.int .i64 r.wk) rfl).trans (by rw [E8.out]))
              | (go_at_call 34; ((with_reducible refine (prn0 r hF w W1 (.slice none 0 0) _ _ HV.out (BW.out W1 P1.out.bel) P1.out.bel.size (by have := P1.out.len; omega) P1.out.own).mono ?_)); rintro e W2 ⟨x2, rfl, ho, hb⟩
                 have P2 : Hid (PSt (w.alloc (.cells #[.int .i64 r.freq, .int .i64 r.intv, .int .i64 r.cnt, .bool r.has, .int .i64 r.unt.secs, .bool r.unt.utc, .bool r.unt.date, .slice a1 r.mon.length c1, .slice a2 r.md.length c2, .slice a3 r.dys.length c3, .slice a4 r.pos.length c4, .int .i64 r.wk] 27)) W2 x2 ([] ++ optK r 0)) := Lib.hid ⟨P1.out.bel.trans ((((Below.refl _ W1).alloc (Nat.le_refl _) _).mono P1.out.bel.size).trans hb), ho, by have := optK_len r 0; have := optK_len r 1; have := optK_len r 2; have := optK_len r 3; have := optK_len r 4; have := optK_len r 5; have := optK_len r 6; have := optK_len r 7; have := optK_len r 8; simp only [List.length_append, List.length_nil]; omega⟩
                 clear hb ho
                 clear t0 t1 t2 t3 t4 t5 t6 t7 t8 t9 t10 t11
                 have t0 : W2.cell? ⟨w.heap.size, 0, none⟩ = some (.int .i64 r.freq) := CELL.out W2 P2.out.bel 0 _ rfl
                 have t1 : W2.cell? ⟨w.heap.size, 1, none⟩ = some (.int .i64 1) := (CELL.out W2 P2.out.bel 1 (.int .i64 r.intv) rfl).trans (by rw [E1.out])
                 have t2 : W2.cell? ⟨w.heap.size, 2, none⟩ = some (.int .i64 r.cnt) := CELL.out W2 P2.out.bel 2 _ rfl
                 have t3 : W2.cell? ⟨w.heap.size, 3, none⟩ = some (.bool false) := (CELL.out W2 P2.out.bel 3 (.bool r.has) rfl).trans (by rw [HH.out])
                 have t4 : W2.cell? ⟨w.heap.size, 4, none⟩ = some (.int .i64 r.unt.secs) := CELL.out W2 P2.out.bel 4 _ rfl
                 have t5 : W2.cell? ⟨w.heap.size, 5, none⟩ = some (.bool r.unt.utc) := CELL.out W2 P2.out.bel 5 _ rfl
                 have t6 : W2.cell? ⟨w.heap.size, 6, none⟩ = some (.bool r.unt.date) := CELL.out W2 P2.out.bel 6 _ rfl
                 have t7 : W2.cell? ⟨w.heap.size, 7, none⟩ = some (.slice a1 r.mon.length c1) := CELL.out W2 P2.out.bel 7 _ rfl
                 have t8 : W2.cell? ⟨w.heap.size, 8, none⟩ = some (.slice a2 r.md.length c2) := CELL.out W2 P2.out.bel 8 _ rfl
                 have t9 : W2.cell? ⟨w.heap.size, 9, none⟩ = some (.slice a3 r.dys.length c3) := CELL.out W2 P2.out.bel 9 _ rfl
                 have t10 : W2.cell? ⟨w.heap.size, 10, none⟩ = some (.slice a4 r.pos.length c4) := CELL.out W2 P2.out.bel 10 _ rfl
                 have t11 : W2.cell? ⟨w.heap.size, 11, none⟩ = some (.int .i64 0) := (CELL.out W2 P2.out.bel 11 (.int .i64 r.wk) rfl).trans (by rw [E8.out]))
              | (go_at_call 34; ((with_reducible refine (prn2 r hF HX2.out w W2 x2 _ _ HV.out (BW.out W2 P2.out.bel) P2.out.bel.size (by have := P2.out.len; omega) P2.out.own).mono ?_)); rintro e W3 ⟨x3, rfl, ho, hb⟩
                 have P3 : Hid (PSt (w.alloc (.cells #[.int .i64 r.freq, .int .i64 r.intv, .int .i64 r.cnt, .bool r.has, .int .i64 r.unt.secs, .bool r.unt.utc, .bool r.unt.date, .slice a1 r.mon.length c1, .slice a2 r.md.length c2, .slice a3 r.dys.length c3, .slice a4 r.pos.length c4, .int .i64 r.wk] 27)) W3 x3 (([] ++ optK r 0) ++ optK r 2)) := Lib.hid ⟨P2.out.bel.trans ((((Below.refl _ W2).alloc (Nat.le_refl _) _).mono P2.out.bel.size).trans hb), ho, by have := optK_len r 0; have := optK_len r 1; have := optK_len r 2; have := optK_len r 3; have := optK_len r 4; have := optK_len r 5; have := optK_len r 6; have := optK_len r 7; have := optK_len r 8; simp only [List.length_append, List.length_nil]; omega⟩
                 clear hb ho
                 clear t0 t1 t2 t3 t4 t5 t6 t7 t8 t9 t10 t11
                 have t0 : W3.cell? ⟨w.heap.size, 0, none⟩ = some (.int .i64 r.freq) := CELL.out W3 P3.out.bel 0 _ rfl
                 have t1 : W3.cell? ⟨w.heap.size, 1, none⟩ = some (.int .i64 1) := (CELL.out W3 P3.out.bel 1 (.int .i64 r.intv) rfl).trans (by rw [E1.out])
                 have t2 : W3.cell? ⟨w.heap.size, 2, none⟩ = some (.int .i64 r.cnt) := CELL.out W3 P3.out.bel 2 _ rfl
                 have t3 : W3.cell? ⟨w.heap.size, 3, none⟩ = some (.bool false) := (CELL.out W3 P3.out.bel 3 (.bool r.has) rfl).trans (by rw [HH.out])
                 have t4 : W3.cell? ⟨w.heap.size, 4, none⟩ = some (.int .i64 r.unt.secs) := CELL.out W3 P3.out.bel 4 _ rfl
                 have t5 : W3.cell? ⟨w.heap.size, 5, none⟩ = some (.bool r.unt.utc) := CELL.out W3 P3.out.bel 5 _ rfl
                 have t6 : W3.cell? ⟨w.heap.size, 6, none⟩ = some (.bool r.unt.date) := CELL.out W3 P3.out.bel 6 _ rfl
                 have t7 : W3.cell? ⟨w.heap.size, 7, none⟩ = some (.slice a1 r.mon.length c1) := CELL.out W3 P3.out.bel 7 _ rfl
                 have t8 : W3.cell? ⟨w.heap.size, 8, none⟩ = some (.slice a2 r.md.length c2) := CELL.out W3 P3.out.bel 8 _ rfl
                 have t9 : W3.cell? ⟨w.heap.size, 9, none⟩ = some (.slice a3 r.dys.length c3) := CELL.out W3 P3.out.bel 9 _ rfl
                 have t10 : W3.cell? ⟨w.heap.size, 10, none⟩ = some (.slice a4 r.pos.length c4) := CELL.out W3 P3.out.bel 10 _ rfl
                 have t11 : W3.cell? ⟨w.heap.size, 11, none⟩ = some (.int .i64 0) := (CELL.out W3 P3.out.bel 11 (.int .i64 r.wk) rfl).trans (by rw [E8.out]))
              | (go_at_call 34; ((with_reducible refine (prn4 r hF w W3 x3 (.slice a1 r.mon.length c1) _ _ HV.out (BW.out W3 P3.out.bel) P3.out.bel.size (by have := P3.out.len; omega) P3.out.own (HS.out.s1.step (BW.out W3 P3.out.bel))).mono ?_)); rintro e W4 ⟨x4, rfl, ho, hb⟩
                 have P4 : Hid (PSt (w.alloc (.cells #[.int .i64 r.freq, .int .i64 r.intv, .int .i64 r.cnt, .bool r.has, .int .i64 r.unt.secs, .bool r.unt.utc, .bool r.unt.date, .slice a1 r.mon.length c1, .slice a2 r.md.length c2, .slice a3 r.dys.length c3, .slice a4 r.pos.length c4, .int .i64 r.wk] 27)) W4 x4 ((([] ++ optK r 0) ++ optK r 2) ++ optK r 4)) := Lib.hid ⟨P3.out.bel.trans hb, ho, by have := optK_len r 0; have := optK_len r 1; have := optK_len r 2; have := optK_len r 3; have := optK_len r 4; have := optK_len r 5; have := optK_len r 6; have := optK_len r 7; have := optK_len r 8; simp only [List.length_append, List.length_nil]; omega⟩
                 clear hb ho
                 clear t0 t1 t2 t3 t4 t5 t6 t7 t8 t9 t10 t11
                 have t0 : W4.cell? ⟨w.heap.size, 0, none⟩ = some (.int .i64 r.freq) := CELL.out W4 P4.out.bel 0 _ rfl
                 have t1 : W4.cell? ⟨w.heap.size, 1, none⟩ = some (.int .i64 1) := (CELL.out W4 P4.out.bel 1 (.int .i64 r.intv) rfl).trans (by rw [E1.out])
                 have t2 : W4.cell? ⟨w.heap.size, 2, none⟩ = some (.int .i64 r.cnt) := CELL.out W4 P4.out.bel 2 _ rfl
                 have t3 : W4.cell? ⟨w.heap.size, 3, none⟩ = some (.bool false) := (CELL.out W4 P4.out.bel 3 (.bool r.has) rfl).trans (by rw [HH.out])
                 have t4 : W4.cell? ⟨w.heap.size, 4, none⟩ = some (.int .i64 r.unt.secs) := CELL.out W4 P4.out.bel 4 _ rfl
                 have t5 : W4.cell? ⟨w.heap.size, 5, none⟩ = some (.bool r.unt.utc) := CELL.out W4 P4.out.bel 5 _ rfl
                 have t6 : W4.cell? ⟨w.heap.size, 6, none⟩ = some (.bool r.unt.date) := CELL.out W4 P4.out.bel 6 _ rfl
                 have t7 : W4.cell? ⟨w.heap.size, 7, none⟩ = some (.slice a1 r.mon.length c1) := CELL.out W4 P4.out.bel 7 _ rfl
                 have t8 : W4.cell? ⟨w.heap.size, 8, none⟩ = some (.slice a2 r.md.length c2) := CELL.out W4 P4.out.bel 8 _ rfl
                 have t9 : W4.cell? ⟨w.heap.size, 9, none⟩ = some (.slice a3 r.dys.length c3) := CELL.out W4 P4.out.bel 9 _ rfl
                 have t10 : W4.cell? ⟨w.heap.size, 10, none⟩ = some (.slice a4 r.pos.length c4) := CELL.out W4 P4.out.bel 10 _ rfl
                 have t11 : W4.cell? ⟨w.heap.size, 11, none⟩ = some (.int .i64 0) := (CELL.out W4 P4.out.bel 11 (.int .i64 r.wk) rfl).trans (by rw [E8.out]))
              | (go_at_call 34; ((with_reducible refine (prn5 r hF w W4 x4 (.slice a2 r.md.length c2) _ _ HV.out (BW.out W4 P4.out.bel) P4.out.bel.size (by have := P4.out.len; omega) P4.out.own (HS.out.s2.step (BW.out W4 P4.out.bel))).mono ?_)); rintro e W5 ⟨x5, rfl, ho, hb⟩
                 have P5 : Hid (PSt (w.alloc (.cells #[.int .i64 r.freq, .int .i64 r.intv, .int .i64 r.cnt, .bool r.has, .int .i64 r.unt.secs, .bool r.unt.utc, .bool r.unt.date, .slice a1 r.mon.length c1, .slice a2 r.md.length c2, .slice a3 r.dys.length c3, .slice a4 r.pos.length c4, .int .i64 r.wk] 27)) W5 x5 (((([] ++ optK r 0) ++ optK r 2) ++ optK r 4) ++ optK r 5)) := Lib.hid ⟨P4.out.bel.trans hb, ho, by have := optK_len r 0; have := optK_len r 1; have := optK_len r 2; have := optK_len r 3; have := optK_len r 4; have := optK_len r 5; have := optK_len r 6; have := optK_len r 7; have := optK_len r 8; simp only [List.length_append, List.length_nil]; omega⟩
                 clear hb ho
                 clear t0 t1 t2 t3 t4 t5 t6 t7 t8 t9 t10 t11
                 have t0 : W5.cell? ⟨w.heap.size, 0, none⟩ = some (.int .i64 r.freq) := CELL.out W5 P5.out.bel 0 _ rfl
                 have t1 : W5.cell? ⟨w.heap.size, 1, none⟩ = some (.int .i64 1) := (CELL.out W5 P5.out.bel 1 (.int .i64 r.intv) rfl).trans (by rw [E1.out])
                 have t2 : W5.cell? ⟨w.heap.size, 2, none⟩ = some (.int .i64 r.cnt) := CELL.out W5 P5.out.bel 2 _ rfl
                 have t3 : W5.cell? ⟨w.heap.size, 3, none⟩ = some (.bool false) := (CELL.out W5 P5.out.bel 3 (.bool r.has) rfl).trans (by rw [HH.out])
                 have t4 : W5.cell? ⟨w.heap.size, 4, none⟩ = some (.int .i64 r.unt.secs) := CELL.out W5 P5.out.bel 4 _ rfl
                 have t5 : W5.cell? ⟨w.heap.size, 5, none⟩ = some (.bool r.unt.utc) := CELL.out W5 P5.out.bel 5 _ rfl
                 have t6 : W5.cell? ⟨w.heap.size, 6, none⟩ = some (.bool r.unt.date) := CELL.out W5 P5.out.bel 6 _ rfl
                 have t7 : W5.cell? ⟨w.heap.size, 7, none⟩ = some (.slice a1 r.mon.length c1) := CELL.out W5 P5.out.bel 7 _ rfl
                 have t8 : W5.cell? ⟨w.heap.size, 8, none⟩ = some (.slice a2 r.md.length c2) := CELL.out W5 P5.out.bel 8 _ rfl
                 have t9 : W5.cell? ⟨w.heap.size, 9, none⟩ = some (.slice a3 r.dys.length c3) := CELL.out W5 P5.out.bel 9 _ rfl
                 have t10 : W5.cell? ⟨w.heap.size, 10, none⟩ = some (.slice a4 r.pos.length c4) := CELL.out W5 P5.out.bel 10 _ rfl
                 have t11 : W5.cell? ⟨w.heap.size, 11, none⟩ = some (.int .i64 0) := (CELL.out W5 P5.out.bel 11 (.int .i64 r.wk) rfl).trans (by rw [E8.out]))
              | (go_at_call 39; ((with_reducible refine (prn6 r hF w W5 x5 (.slice a3 r.dys.length c3) _ _ HV.out (BW.out W5 P5.out.bel) P5.out.bel.size (by have := P5.out.len; omega) P5.out.own (HS.out.s3.step (BW.out W5 P5.out.bel))).mono ?_)); rintro e W6 ⟨x6, rfl, ho, hb⟩
                 have P6 : Hid (PSt (w.alloc (.cells #[.int .i64 r.freq, .int .i64 r.intv, .int .i64 r.cnt, .bool r.has, .int .i64 r.unt.secs, .bool r.unt.utc, .bool r.unt.date, .slice a1 r.mon.length c1, .slice a2 r.md.length c2, .slice a3 r.dys.length c3, .slice a4 r.pos.length c4, .int .i64 r.wk] 27)) W6 x6 ((((([] ++ optK r 0) ++ optK r 2) ++ optK r 4) ++ optK r 5) ++ optK r 6)) := Lib.hid ⟨P5.out.bel.trans hb, ho, by have := optK_len r 0; have := optK_len r 1; have := optK_len r 2; have := optK_len r 3; have := optK_len r 4; have := optK_len r 5; have := optK_len r 6; have := optK_len r 7; have := optK_len r 8; simp only [List.length_append, List.length_nil]; omega⟩
                 clear hb ho
                 clear t0 t1 t2 t3 t4 t5 t6 t7 t8 t9 t10 t11
                 have t0 : W6.cell? ⟨w.heap.size, 0, none⟩ = some (.int .i64 r.freq) := CELL.out W6 P6.out.bel 0 _ rfl
                 have t1 : W6.cell? ⟨w.heap.size, 1, none⟩ = some (.int .i64 1) := (CELL.out W6 P6.out.bel 1 (.int .i64 r.intv) rfl).trans (by rw [E1.out])
                 have t2 : W6.cell? ⟨w.heap.size, 2, none⟩ = some (.int .i64 r.cnt) := CELL.out W6 P6.out.bel 2 _ rfl
                 have t3 : W6.cell? ⟨w.heap.size, 3, none⟩ = some (.bool false) := (CELL.out W6 P6.out.bel 3 (.bool r.has) rfl).trans (by rw [HH.out])
                 have t4 : W6.cell? ⟨w.heap.size, 4, none⟩ = some (.int .i64 r.unt.secs) := CELL.out W6 P6.out.bel 4 _ rfl
                 have t5 : W6.cell? ⟨w.heap.size, 5, none⟩ = some (.bool r.unt.utc) := CELL.out W6 P6.out.bel 5 _ rfl
                 have t6 : W6.cell? ⟨w.heap.size, 6, none⟩ = some (.bool r.unt.date) := CELL.out W6 P6.out.bel 6 _ rfl
                 have t7 : W6.cell? ⟨w.heap.size, 7, none⟩ = some (.slice a1 r.mon.length c1) := CELL.out W6 P6.out.bel 7 _ rfl
                 have t8 : W6.cell? ⟨w.heap.size, 8, none⟩ = some (.slice a2 r.md.length c2) := CELL.out W6 P6.out.bel 8 _ rfl
                 have t9 : W6.cell? ⟨w.heap.size, 9, none⟩ = some (.slice a3 r.dys.length c3) := CELL.out W6 P6.out.bel 9 _ rfl
                 have t10 : W6.cell? ⟨w.heap.size, 10, none⟩ = some (.slice a4 r.pos.length c4) := CELL.out W6 P6.out.bel 10 _ rfl
                 have t11 : W6.cell? ⟨w.heap.size, 11, none⟩ = some (.int .i64 0) := (CELL.out W6 P6.out.bel 11 (.int .i64 r.wk) rfl).trans (by rw [E8.out]))
              | (go_at_call 34; ((with_reducible refine (prn7 r hF w W6 x6 (.slice a4 r.pos.length c4) _ _ HV.out (BW.out W6 P6.out.bel) P6.out.bel.size (by have := P6.out.len; omega) P6.out.own (HS.out.s4.step (BW.out W6 P6.out.bel))).mono ?_)); rintro e W7 ⟨x7, rfl, ho, hb⟩
                 have P7 : Hid (PSt (w.alloc (.cells #[.int .i64 r.freq, .int .i64 r.intv, .int .i64 r.cnt, .bool r.has, .int .i64 r.unt.secs, .bool r.unt.utc, .bool r.unt.date, .slice a1 r.mon.length c1, .slice a2 r.md.length c2, .slice a3 r.dys.length c3, .slice a4 r.pos.length c4, .int .i64 r.wk] 27)) W7 x7 (((((([] ++ optK r 0) ++ optK r 2) ++ optK r 4) ++ optK r 5) ++ optK r 6) ++ optK r 7)) := Lib.hid ⟨P6.out.bel.trans hb, ho, by have := optK_len r 0; have := optK_len r 1; have := optK_len r 2; have := optK_len r 3; have := optK_len r 4; have := optK_len r 5; have := optK_len r 6; have := optK_len r 7; have := optK_len r 8; simp only [List.length_append, List.length_nil]; omega⟩
                 clear hb ho
                 clear t0 t1 t2 t3 t4 t5 t6 t7 t8 t9 t10 t11
                 have t0 : W7.cell? ⟨w.heap.size, 0, none⟩ = some (.int .i64 r.freq) := CELL.out W7 P7.out.bel 0 _ rfl
                 have t1 : W7.cell? ⟨w.heap.size, 1, none⟩ = some (.int .i64 1) := (CELL.out W7 P7.out.bel 1 (.int .i64 r.intv) rfl).trans (by rw [E1.out])
                 have t2 : W7.cell? ⟨w.heap.size, 2, none⟩ = some (.int .i64 r.cnt) := CELL.out W7 P7.out.bel 2 _ rfl
                 have t3 : W7.cell? ⟨w.heap.size, 3, none⟩ = some (.bool false) := (CELL.out W7 P7.out.bel 3 (.bool r.has) rfl).trans (by rw [HH.out])
                 have t4 : W7.cell? ⟨w.heap.size, 4, none⟩ = some (.int .i64 r.unt.secs) := CELL.out W7 P7.out.bel 4 _ rfl
                 have t5 : W7.cell? ⟨w.heap.size, 5, none⟩ = some (.bool r.unt.utc) := CELL.out W7 P7.out.bel 5 _ rfl
                 have t6 : W7.cell? ⟨w.heap.size, 6, none⟩ = some (.bool r.unt.date) := CELL.out W7 P7.out.bel 6 _ rfl
                 have t7 : W7.cell? ⟨w.heap.size, 7, none⟩ = some (.slice a1 r.mon.length c1) := CELL.out W7 P7.out.bel 7 _ rfl
                 have t8 : W7.cell? ⟨w.heap.size, 8, none⟩ = some (.slice a2 r.md.length c2) := CELL.out W7 P7.out.bel 8 _ rfl
                 have t9 : W7.cell? ⟨w.heap.size, 9, none⟩ = some (.slice a3 r.dys.length c3) := CELL.out W7 P7.out.bel 9 _ rfl
                 have t10 : W7.cell? ⟨w.heap.size, 10, none⟩ = some (.slice a4 r.pos.length c4) := CELL.out W7 P7.out.bel 10 _ rfl
                 have t11 : W7.cell? ⟨w.heap.size, 11, none⟩ = some (.int .i64 0) := (CELL.out W7 P7.out.bel 11 (.int .i64 r.wk) rfl).trans (by rw [E8.out]))
              | (go_at_call 42; refine (joinP P7.out (by rw [← HPS.out]; exact partsV_ne r) (by rw [← HPS.out]; exact parts_max hF)).mono ?_; rintro e W9 ⟨rfl, hb⟩; have HB9 := Lib.hid (BW.out _ (P7.out.bel.trans (hb.mono P7.out.bel.size))); clear hb))
            go_ret
            exact ⟨by rw [HP.out, HPS.out]; first | rfl | simp, HB9.out⟩
          · have hx8 := no8
            rw [no8] at b8
            clear no8
            have HPS : Hid (partsV r = ((((((([] ++ optK r 0) ++ optK r 2) ++ optK r 4) ++ optK r 5) ++ optK r 6) ++ optK r 7) ++ optK r 8)) := Lib.hid (by
              rw [partsV_is]
              have e1 : optK r 1 = [] := by unfold optK; rw [if_neg (by rw [no1]; decide)]
              have e3 : optK r 3 = [] := by unfold optK; rw [if_neg (by rw [no3]; decide)]
              rw [e1, e3]
              simp)
            have HX2 := Lib.hid hx2
            have HX8 := Lib.hid hx8
            have HU := Lib.hid hu
            clear hu no1 no3 hx2 hx8
            go_enter Tryz.func13, Tryz.ntmps13
            go_wp2_with (first
              | (go_at_call 11; refine cF.mono ?_; rintro e W1 ⟨rfl, hb⟩; clear cF
                 have P1 : Hid (PSt (w.alloc (.cells #[.int .i64 r.freq, .int .i64 r.intv, .int .i64 r.cnt, .bool r.has, .int .i64 r.unt.secs, .bool r.unt.utc, .bool r.unt.date, .slice a1 r.mon.length c1, .slice a2 r.md.length c2, .slice a3 r.dys.length c3, .slice a4 r.pos.length c4, .int .i64 r.wk] 27)) W1 (.slice none 0 0) []) := Lib.hid ⟨hb, World.ownsRow_nil _ _ _ _, by simp⟩
                 clear hb
                 have t0 : W1.cell? ⟨w.heap.size, 0, none⟩ = some (.int .i64 r.freq) := CELL.out W1 P1.out.bel 0 _ rfl
                 have t1 : W1.cell? ⟨w.heap.size, 1, none⟩ = some (.int .i64 1) := (CELL.out W1 P1.out.bel 1 (.int .i64 r.intv) rfl).trans (by rw [E1.out])
                 have t2 : W1.cell? ⟨w.heap.size, 2, none⟩ = some (.int .i64 r.cnt) := CELL.out W1 P1.out.bel 2 _ rfl
                 have t3 : W1.cell? ⟨w.heap.size, 3, none⟩ = some (.bool false) := (CELL.out W1 P1.out.bel 3 (.bool r.has) rfl).trans (by rw [HH.out])
                 have t4 : W1.cell? ⟨w.heap.size, 4, none⟩ = some (.int .i64 r.unt.secs) := CELL.out W1 P1.out.bel 4 _ rfl
                 have t5 : W1.cell? ⟨w.heap.size, 5, none⟩ = some (.bool r.unt.utc) := CELL.out W1 P1.out.bel 5 _ rfl
                 have t6 : W1.cell? ⟨w.heap.size, 6, none⟩ = some (.bool r.unt.date) := CELL.out W1 P1.out.bel 6 _ rfl
                 have t7 : W1.cell? ⟨w.heap.size, 7, none⟩ = some (.slice a1 r.mon.length c1) := CELL.out W1 P1.out.bel 7 _ rfl
                 have t8 : W1.cell? ⟨w.heap.size, 8, none⟩ = some (.slice a2 r.md.length c2) := CELL.out W1 P1.out.bel 8 _ rfl
                 have t9 : W1.cell? ⟨w.heap.size, 9, none⟩ = some (.slice a3 r.dys.length c3) := CELL.out W1 P1.out.bel 9 _ rfl
                 have t10 : W1.cell? ⟨w.heap.size, 10, none⟩ = some (.slice a4 r.pos.length c4) := CELL.out W1 P1.out.bel 10 _ rfl
                 have t11 : W1.cell? ⟨w.heap.size, 11, none⟩ = some (.int .i64 r.wk) := CELL.out W1 P1.out.bel 11 _ rfl)
              | (go_at_call 34; ((with_reducible refine (prn0 r hF w W1 (.slice none 0 0) _ _ HV.out (BW.out W1 P1.out.bel) P1.out.bel.size (by have := P1.out.len; omega) P1.out.own).mono ?_)); rintro e W2 ⟨x2, rfl, ho, hb⟩
                 have P2 : Hid (PSt (w.alloc (.cells #[.int .i64 r.freq, .int .i64 r.intv, .int .i64 r.cnt, .bool r.has, .int .i64 r.unt.secs, .bool r.unt.utc, .bool r.unt.date, .slice a1 r.mon.length c1, .slice a2 r.md.length c2, .slice a3 r.dys.length c3, .slice a4 r.pos.length c4, .int .i64 r.wk] 27)) W2 x2 ([] ++ optK r 0)) := Lib.hid ⟨P1.out.bel.trans ((((Below.refl _ W1).alloc (Nat.le_refl _) _).mono P1.out.bel.size).trans hb), ho, by have := optK_len r 0; have := optK_len r 1; have := optK_len r 2; have := optK_len r 3; have := optK_len r 4; have := optK_len r 5; have := optK_len r 6; have := optK_len r 7; have := optK_len r 8; simp only [List.length_append, List.length_nil]; omega⟩
                 clear hb ho
                 clear t0 t1 t2 t3 t4 t5 t6 t7 t8 t9 t10 t11
                 have t0 : W2.cell? ⟨w.heap.size, 0, none⟩ = some (.int .i64 r.freq) := CELL.out W2 P2.out.bel 0 _ rfl
                 have t1 : W2.cell? ⟨w.heap.size, 1, none⟩ = some (.int .i64 1) := (CELL.out W2 P2.out.bel 1 (.int .i64 r.intv) rfl).trans (by rw [E1.out])
                 have t2 : W2.cell? ⟨w.heap.size, 2, none⟩ = some (.int .i64 r.cnt) := CELL.out W2 P2.out.bel 2 _ rfl
                 have t3 : W2.cell? ⟨w.heap.size, 3, none⟩ = some (.bool false) := (CELL.out W2 P2.out.bel 3 (.bool r.has) rfl).trans (by rw [HH.out])
                 have t4 : W2.cell? ⟨w.heap.size, 4, none⟩ = some (.int .i64 r.unt.secs) := CELL.out W2 P2.out.bel 4 _ rfl
                 have t5 : W2.cell? ⟨w.heap.size, 5, none⟩ = some (.bool r.unt.utc) := CELL.out W2 P2.out.bel 5 _ rfl
                 have t6 : W2.cell? ⟨w.heap.size, 6, none⟩ = some (.bool r.unt.date) := CELL.out W2 P2.out.bel 6 _ rfl
                 have t7 : W2.cell? ⟨w.heap.size, 7, none⟩ = some (.slice a1 r.mon.length c1) := CELL.out W2 P2.out.bel 7 _ rfl
                 have t8 : W2.cell? ⟨w.heap.size, 8, none⟩ = some (.slice a2 r.md.length c2) := CELL.out W2 P2.out.bel 8 _ rfl
                 have t9 : W2.cell? ⟨w.heap.size, 9, none⟩ = some (.slice a3 r.dys.length c3) := CELL.out W2 P2.out.bel 9 _ rfl
                 have t10 : W2.cell? ⟨w.heap.size, 10, none⟩ = some (.slice a4 r.pos.length c4) := CELL.out W2 P2.out.bel 10 _ rfl
                 have t11 : W2.cell? ⟨w.heap.size, 11, none⟩ = some (.int .i64 r.wk) := CELL.out W2 P2.out.bel 11 _ rfl)
              | (go_at_call 34; ((with_reducible refine (prn2 r hF HX2.out w W2 x2 _ _ HV.out (BW.out W2 P2.out.bel) P2.out.bel.size (by have := P2.out.len; omega) P2.out.own).mono ?_)); rintro e W3 ⟨x3, rfl, ho, hb⟩
                 have P3 : Hid (PSt (w.alloc (.cells #[.int .i64 r.freq, .int .i64 r.intv, .int .i64 r.cnt, .bool r.has, .int .i64 r.unt.secs, .bool r.unt.utc, .bool r.unt.date, .slice a1 r.mon.length c1, .slice a2 r.md.length c2, .slice a3 r.dys.length c3, .slice a4 r.pos.length c4, .int .i64 r.wk] 27)) W3 x3 (([] ++ optK r 0) ++ optK r 2)) := Lib.hid ⟨P2.out.bel.trans ((((Below.refl _ W2).alloc (Nat.le_refl _) _).mono P2.out.bel.size).trans hb), ho, by have := optK_len r 0; have := optK_len r 1; have := optK_len r 2; have := optK_len r 3; have := optK_len r 4; have := optK_len r 5; have := optK_len r 6; have := optK_len r 7; have := optK_len r 8; simp only [List.length_append, List.length_nil]; omega⟩
                 clear hb ho
                 clear t0 t1 t2 t3 t4 t5 t6 t7 t8 t9 t10 t11
                 have t0 : W3.cell? ⟨w.heap.size, 0, none⟩ = some (.int .i64 r.freq) := CELL.out W3 P3.out.bel 0 _ rfl
                 have t1 : W3.cell? ⟨w.heap.size, 1, none⟩ = some (.int .i64 1) := (CELL.out W3 P3.out.bel 1 (.int .i64 r.intv) rfl).trans (by rw [E1.out])
                 have t2 : W3.cell? ⟨w.heap.size, 2, none⟩ = some (.int .i64 r.cnt) := CELL.out W3 P3.out.bel 2 _ rfl
                 have t3 : W3.cell? ⟨w.heap.size, 3, none⟩ = some (.bool false) := (CELL.out W3 P3.out.bel 3 (.bool r.has) rfl).trans (by rw [HH.out])
                 have t4 : W3.cell? ⟨w.heap.size, 4, none⟩ = some (.int .i64 r.unt.secs) := CELL.out W3 P3.out.bel 4 _ rfl
                 have t5 : W3.cell? ⟨w.heap.size, 5, none⟩ = some (.bool r.unt.utc) := CELL.out W3 P3.out.bel 5 _ rfl
                 have t6 : W3.cell? ⟨w.heap.size, 6, none⟩ = some (.bool r.unt.date) := CELL.out W3 P3.out.bel 6 _ rfl
                 have t7 : W3.cell? ⟨w.heap.size, 7, none⟩ = some (.slice a1 r.mon.length c1) := CELL.out W3 P3.out.bel 7 _ rfl
                 have t8 : W3.cell? ⟨w.heap.size, 8, none⟩ = some (.slice a2 r.md.length c2) := CELL.out W3 P3.out.bel 8 _ rfl
                 have t9 : W3.cell? ⟨w.heap.size, 9, none⟩ = some (.slice a3 r.dys.length c3) := CELL.out W3 P3.out.bel 9 _ rfl
                 have t10 : W3.cell? ⟨w.heap.size, 10, none⟩ = some (.slice a4 r.pos.length c4) := CELL.out W3 P3.out.bel 10 _ rfl
                 have t11 : W3.cell? ⟨w.heap.size, 11, none⟩ = some (.int .i64 r.wk) := CELL.out W3 P3.out.bel 11 _ rfl)
              | (go_at_call 34; ((with_reducible refine (prn4 r hF w W3 x3 (.slice a1 r.mon.length c1) _ _ HV.out (BW.out W3 P3.out.bel) P3.out.bel.size (by have := P3.out.len; omega) P3.out.own (HS.out.s1.step (BW.out W3 P3.out.bel))).mono ?_)); rintro e W4 ⟨x4, rfl, ho, hb⟩
                 have P4 : Hid (PSt (w.alloc (.cells #[.int .i64 r.freq, .int .i64 r.intv, .int .i64 r.cnt, .bool r.has, .int .i64 r.unt.secs, .bool r.unt.utc, .bool r.unt.date, .slice a1 r.mon.length c1, .slice a2 r.md.length c2, .slice a3 r.dys.length c3, .slice a4 r.pos.length c4, .int .i64 r.wk] 27)) W4 x4 ((([] ++ optK r 0) ++ optK r 2) ++ optK r 4)) := Lib.hid ⟨P3.out.bel.trans hb, ho, by have := optK_len r 0; have := optK_len r 1; have := optK_len r 2; have := optK_len r 3; have := optK_len r 4; have := optK_len r 5; have := optK_len r 6; have := optK_len r 7; have := optK_len r 8; simp only [List.length_append, List.length_nil]; omega⟩
                 clear hb ho
                 clear t0 t1 t2 t3 t4 t5 t6 t7 t8 t9 t10 t11
                 have t0 : W4.cell? ⟨w.heap.size, 0, none⟩ = some (.int .i64 r.freq) := CELL.out W4 P4.out.bel 0 _ rfl
                 have t1 : W4.cell? ⟨w.heap.size, 1, none⟩ = some (.int .i64 1) := (CELL.out W4 P4.out.bel 1 (.int .i64 r.intv) rfl).trans (by rw [E1.out])
                 have t2 : W4.cell? ⟨w.heap.size, 2, none⟩ = some (.int .i64 r.cnt) := CELL.out W4 P4.out.bel 2 _ rfl
                 have t3 : W4.cell? ⟨w.heap.size, 3, none⟩ = some (.bool false) := (CELL.out W4 P4.out.bel 3 (.bool r.has) rfl).trans (by rw [HH.out])
                 have t4 : W4.cell? ⟨w.heap.size, 4, none⟩ = some (.int .i64 r.unt.secs) := CELL.out W4 P4.out.bel 4 _ rfl
                 have t5 : W4.cell? ⟨w.heap.size, 5, none⟩ = some (.bool r.unt.utc) := CELL.out W4 P4.out.bel 5 _ rfl
                 have t6 : W4.cell? ⟨w.heap.size, 6, none⟩ = some (.bool r.unt.date) := CELL.out W4 P4.out.bel 6 _ rfl
                 have t7 : W4.cell? ⟨w.heap.size, 7, none⟩ = some (.slice a1 r.mon.length c1) := CELL.out W4 P4.out.bel 7 _ rfl
                 have t8 : W4.cell? ⟨w.heap.size, 8, none⟩ = some (.slice a2 r.md.length c2) := CELL.out W4 P4.out.bel 8 _ rfl
                 have t9 : W4.cell? ⟨w.heap.size, 9, none⟩ = some (.slice a3 r.dys.length c3) := CELL.out W4 P4.out.bel 9 _ rfl
                 have t10 : W4.cell? ⟨w.heap.size, 10, none⟩ = some (.slice a4 r.pos.length c4) := CELL.out W4 P4.out.bel 10 _ rfl
                 have t11 : W4.cell? ⟨w.heap.size, 11, none⟩ = some (.int .i64 r.wk) := CELL.out W4 P4.out.bel 11 _ rfl)
              | (go_at_call 34; ((with_reducible refine (prn5 r hF w W4 x4 (.slice a2 r.md.length c2) _ _ HV.out (BW.out W4 P4.out.bel) P4.out.bel.size (by have := P4.out.len; omega) P4.out.own (HS.out.s2.step (BW.out W4 P4.out.bel))).mono ?_)); rintro e W5 ⟨x5, rfl, ho, hb⟩
                 have P5 : Hid (PSt (w.alloc (.cells #[.int .i64 r.freq, .int .i64 r.intv, .int .i64 r.cnt, .bool r.has, .int .i64 r.unt.secs, .bool r.unt.utc, .bool r.unt.date, .slice a1 r.mon.length c1, .slice a2 r.md.length c2, .slice a3 r.dys.length c3, .slice a4 r.pos.length c4, .int .i64 r.wk] 27)) W5 x5 (((([] ++ optK r 0) ++ optK r 2) ++ optK r 4) ++ optK r 5)) := Lib.hid ⟨P4.out.bel.trans hb, ho, by have := optK_len r 0; have := optK_len r 1; have := optK_len r 2; have := optK_len r 3; have := optK_len r 4; have := optK_len r 5; have := optK_len r 6; have := optK_len r 7; have := optK_len r 8; simp only [List.length_append, List.length_nil]; omega⟩
                 clear hb ho
                 clear t0 t1 t2 t3 t4 t5 t6 t7 t8 t9 t10 t11
                 have t0 : W5.cell? ⟨w.heap.size, 0, none⟩ = some (.int .i64 r.freq) := CELL.out W5 P5.out.bel 0 _ rfl
                 have t1 : W5.cell? ⟨w.heap.size, 1, none⟩ = some (.int .i64 1) := (CELL.out W5 P5.out.bel 1 (.int .i64 r.intv) rfl).trans (by rw [E1.out])
                 have t2 : W5.cell? ⟨w.heap.size, 2, none⟩ = some (.int .i64 r.cnt) := CELL.out W5 P5.out.bel 2 _ rfl
                 have t3 : W5.cell? ⟨w.heap.size, 3, none⟩ = some (.bool false) := (CELL.out W5 P5.out.bel 3 (.bool r.has) rfl).trans (by rw [HH.out])
                 have t4 : W5.cell? ⟨w.heap.size, 4, none⟩ = some (.int .i64 r.unt.secs) := CELL.out W5 P5.out.bel 4 _ rfl
                 have t5 : W5.cell? ⟨w.heap.size, 5, none⟩ = some (.bool r.unt.utc) := CELL.out W5 P5.out.bel 5 _ rfl
                 have t6 : W5.cell? ⟨w.heap.size, 6, none⟩ = some (.bool r.unt.date) := CELL.out W5 P5.out.bel 6 _ rfl
                 have t7 : W5.cell? ⟨w.heap.size, 7, none⟩ = some (.slice a1 r.mon.length c1) := CELL.out W5 P5.out.bel 7 _ rfl
                 have t8 : W5.cell? ⟨w.heap.size, 8, none⟩ = some (.slice a2 r.md.length c2) := CELL.out W5 P5.out.bel 8 _ rfl
                 have t9 : W5.cell? ⟨w.heap.size, 9, none⟩ = some (.slice a3 r.dys.length c3) := CELL.out W5 P5.out.bel 9 _ rfl
                 have t10 : W5.cell? ⟨w.heap.size, 10, none⟩ = some (.slice a4 r.pos.length c4) := CELL.out W5 P5.out.bel 10 _ rfl
                 have t11 : W5.cell? ⟨w.heap.size, 11, none⟩ = some (.int .i64 r.wk) := CELL.out W5 P5.out.bel 11 _ rfl)
              | (go_at_call 39; ((with_reducible refine (prn6 r hF w W5 x5 (.slice a3 r.dys.length c3) _ _ HV.out (BW.out W5 P5.out.bel) P5.out.bel.size (by have := P5.out.len; omega) P5.out.own (HS.out.s3.step (BW.out W5 P5.out.bel))).mono ?_)); rintro e W6 ⟨x6, rfl, ho, hb⟩
                 have P6 : Hid (PSt (w.alloc (.cells #[.int .i64 r.freq, .int .i64 r.intv, .int .i64 r.cnt, .bool r.has, .int .i64 r.unt.secs, .bool r.unt.utc, .bool r.unt.date, .slice a1 r.mon.length c1, .slice a2 r.md.length c2, .slice a3 r.dys.length c3, .slice a4 r.pos.length c4, .int .i64 r.wk] 27)) W6 x6 ((((([] ++ optK r 0) ++ optK r 2) ++ optK r 4) ++ optK r 5) ++ optK r 6)) := Lib.hid ⟨P5.out.bel.trans hb, ho, by have := optK_len r 0; have := optK_len r 1; have := optK_len r 2; have := optK_len r 3; have := optK_len r 4; have := optK_len r 5; have := optK_len r 6; have := optK_len r 7; have := optK_len r 8; simp only [List.length_append, List.length_nil]; omega⟩
                 clear hb ho
                 clear t0 t1 t2 t3 t4 t5 t6 t7 t8 t9 t10 t11
                 have t0 : W6.cell? ⟨w.heap.size, 0, none⟩ = some (.int .i64 r.freq) := CELL.out W6 P6.out.bel 0 _ rfl
                 have t1 : W6.cell? ⟨w.heap.size, 1, none⟩ = some (.int .i64 1) := (CELL.out W6 P6.out.bel 1 (.int .i64 r.intv) rfl).trans (by rw [E1.out])
                 have t2 : W6.cell? ⟨w.heap.size, 2, none⟩ = some (.int .i64 r.cnt) := CELL.out W6 P6.out.bel 2 _ rfl
                 have t3 : W6.cell? ⟨w.heap.size, 3, none⟩ = some (.bool false) := (CELL.out W6 P6.out.bel 3 (.bool r.has) rfl).trans (by rw [HH.out])
                 have t4 : W6.cell? ⟨w.heap.size, 4, none⟩ = some (.int .i64 r.unt.secs) := CELL.out W6 P6.out.bel 4 _ rfl
                 have t5 : W6.cell? ⟨w.heap.size, 5, none⟩ = some (.bool r.unt.utc) := CELL.out W6 P6.out.bel 5 _ rfl
                 have t6 : W6.cell? ⟨w.heap.size, 6, none⟩ = some (.bool r.unt.date) := CELL.out W6 P6.out.bel 6 _ rfl
                 have t7 : W6.cell? ⟨w.heap.size, 7, none⟩ = some (.slice a1 r.mon.length c1) := CELL.out W6 P6.out.bel 7 _ rfl
                 have t8 : W6.cell? ⟨w.heap.size, 8, none⟩ = some (.slice a2 r.md.length c2) := CELL.out W6 P6.out.bel 8 _ rfl
                 have t9 : W6.cell? ⟨w.heap.size, 9, none⟩ = some (.slice a3 r.dys.length c3) := CELL.out W6 P6.out.bel 9 _ rfl
                 have t10 : W6.cell? ⟨w.heap.size, 10, none⟩ = some (.slice a4 r.pos.length c4) := CELL.out W6 P6.out.bel 10 _ rfl
                 have t11 : W6.cell? ⟨w.heap.size, 11, none⟩ = some (.int .i64 r.wk) := CELL.out W6 P6.out.bel 11 _ rfl)
              | (go_at_call 34; ((with_reducible refine (prn7 r hF w W6 x6 (.slice a4 r.pos.length c4) _ _ HV.out (BW.out W6 P6.out.bel) P6.out.bel.size (by have := P6.out.len; omega) P6.out.own (HS.out.s4.step (BW.out W6 P6.out.bel))).mono ?_)); rintro e W7 ⟨x7, rfl, ho, hb⟩
                 have P7 : Hid (PSt (w.alloc (.cells #[.int .i64 r.freq, .int .i64 r.intv, .int .i64 r.cnt, .bool r.has, .int .i64 r.unt.secs, .bool r.unt.utc, .bool r.unt.date, .slice a1 r.mon.length c1, .slice a2 r.md.length c2, .slice a3 r.dys.length c3, .slice a4 r.pos.length c4, .int .i64 r.wk] 27)) W7 x7 (((((([] ++ optK r 0) ++ optK r 2) ++ optK r 4) ++ optK r 5) ++ optK r 6) ++ optK r 7)) := Lib.hid ⟨P6.out.bel.trans hb, ho, by have := optK_len r 0; have := optK_len r 1; have := optK_len r 2; have := optK_len r 3; have := optK_len r 4; have := optK_len r 5; have := optK_len r 6; have := optK_len r 7; have := optK_len r 8; simp only [List.length_append, List.length_nil]; omega⟩
                 clear hb ho
                 clear t0 t1 t2 t3 t4 t5 t6 t7 t8 t9 t10 t11
                 have t0 : W7.cell? ⟨w.heap.size, 0, none⟩ = some (.int .i64 r.freq) := CELL.out W7 P7.out.bel 0 _ rfl
                 have t1 : W7.cell? ⟨w.heap.size, 1, none⟩ = some (.int .i64 1) := (CELL.out W7 P7.out.bel 1 (.int .i64 r.intv) rfl).trans (by rw [E1.out])
                 have t2 : W7.cell? ⟨w.heap.size, 2, none⟩ = some (.int .i64 r.cnt) := CELL.out W7 P7.out.bel 2 _ rfl
                 have t3 : W7.cell? ⟨w.heap.size, 3, none⟩ = some (.bool false) := (CELL.out W7 P7.out.bel 3 (.bool r.has) rfl).trans (by rw [HH.out])
                 have t4 : W7.cell? ⟨w.heap.size, 4, none⟩ = some (.int .i64 r.unt.secs) := CELL.out W7 P7.out.bel 4 _ rfl
                 have t5 : W7.cell? ⟨w.heap.size, 5, none⟩ = some (.bool r.unt.utc) := CELL.out W7 P7.out.bel 5 _ rfl
                 have t6 : W7.cell? ⟨w.heap.size, 6, none⟩ = some (.bool r.unt.date) := CELL.out W7 P7.out.bel 6 _ rfl
                 have t7 : W7.cell? ⟨w.heap.size, 7, none⟩ = some (.slice a1 r.mon.length c1) := CELL.out W7 P7.out.bel 7 _ rfl
                 have t8 : W7.cell? ⟨w.heap.size, 8, none⟩ = some (.slice a2 r.md.length c2) := CELL.out W7 P7.out.bel 8 _ rfl
                 have t9 : W7.cell? ⟨w.heap.size, 9, none⟩ = some (.slice a3 r.dys.length c3) := CELL.out W7 P7.out.bel 9 _ rfl
                 have t10 : W7.cell? ⟨w.heap.size, 10, none⟩ = some (.slice a4 r.pos.length c4) := CELL.out W7 P7.out.bel 10 _ rfl
                 have t11 : W7.cell? ⟨w.heap.size, 11, none⟩ = some (.int .i64 r.wk) := CELL.out W7 P7.out.bel 11 _ rfl)
              | (go_at_call 34; ((with_reducible refine (prn8 r hF HX8.out w W7 x7 _ _ HV.out (BW.out W7 P7.out.bel) P7.out.bel.size (by have := P7.out.len; omega) P7.out.own).mono ?_)); rintro e W8 ⟨x8, rfl, ho, hb⟩
                 have P8 : Hid (PSt (w.alloc (.cells #[.int .i64 r.freq, .int .i64 r.intv, .int .i64 r.cnt, .bool r.has, .int .i64 r.unt.secs, .bool r.unt.utc, .bool r.unt.date, .slice a1 r.mon.length c1, .slice a2 r.md.length c2, .slice a3 r.dys.length c3, .slice a4 r.pos.length c4, .int .i64 r.wk] 27)) W8 x8 ((((((([] ++ optK r 0) ++ optK r 2) ++ optK r 4) ++ optK r 5) ++ optK r 6) ++ optK r 7) ++ optK r 8)) := Lib.hid ⟨P7.out.bel.trans ((((Below.refl _ W7).alloc (Nat.le_refl _) _).mono P7.out.bel.size).trans hb), ho, by have := optK_len r 0; have := optK_len r 1; have := optK_len r 2; have := optK_len r 3; have := optK_len r 4; have := optK_len r 5; have := optK_len r 6; have := optK_len r 7; have := optK_len r 8; simp only [List.length_append, List.length_nil]; omega⟩
                 clear hb ho
                 clear t0 t1 t2 t3 t4 t5 t6 t7 t8 t9 t10 t11
                 have t0 : W8.cell? ⟨w.heap.size, 0, none⟩ = some (.int .i64 r.freq) := CELL.out W8 P8.out.bel 0 _ rfl
                 have t1 : W8.cell? ⟨w.heap.size, 1, none⟩ = some (.int .i64 1) := (CELL.out W8 P8.out.bel 1 (.int .i64 r.intv) rfl).trans (by rw [E1.out])
                 have t2 : W8.cell? ⟨w.heap.size, 2, none⟩ = some (.int .i64 r.cnt) := CELL.out W8 P8.out.bel 2 _ rfl
                 have t3 : W8.cell? ⟨w.heap.size, 3, none⟩ = some (.bool false) := (CELL.out W8 P8.out.bel 3 (.bool r.has) rfl).trans (by rw [HH.out])
                 have t4 : W8.cell? ⟨w.heap.size, 4, none⟩ = some (.int .i64 r.unt.secs) := CELL.out W8 P8.out.bel 4 _ rfl
                 have t5 : W8.cell? ⟨w.heap.size, 5, none⟩ = some (.bool r.unt.utc) := CELL.out W8 P8.out.bel 5 _ rfl
                 have t6 : W8.cell? ⟨w.heap.size, 6, none⟩ = some (.bool r.unt.date) := CELL.out W8 P8.out.bel 6 _ rfl
                 have t7 : W8.cell? ⟨w.heap.size, 7, none⟩ = some (.slice a1 r.mon.length c1) := CELL.out W8 P8.out.bel 7 _ rfl
                 have t8 : W8.cell? ⟨w.heap.size, 8, none⟩ = some (.slice a2 r.md.length c2) := CELL.out W8 P8.out.bel 8 _ rfl
                 have t9 : W8.cell? ⟨w.heap.size, 9, none⟩ = some (.slice a3 r.dys.length c3) := CELL.out W8 P8.out.bel 9 _ rfl
                 have t10 : W8.cell? ⟨w.heap.size, 10, none⟩ = some (.slice a4 r.pos.length c4) := CELL.out W8 P8.out.bel 10 _ rfl
                 have t11 : W8.cell? ⟨w.heap.size, 11, none⟩ = some (.int .i64 r.wk) := CELL.out W8 P8.out.bel 11 _ rfl)
              | (go_at_call 42; refine (joinP P8.out (by rw [← HPS.out]; exact partsV_ne r) (by rw [← HPS.out]; exact parts_max hF)).mono ?_; rintro e W9 ⟨rfl, hb⟩; have HB9 := Lib.hid (BW.out _ (P8.out.bel.trans (hb.mono P8.out.bel.size))); clear hb))
            go_ret
            exact ⟨by rw [HP.out, HPS.out]; first | rfl | simp, HB9.out⟩
      · have hx3 : hasK r 3 = true := hh
        have no2 : hasK r 2 = false := by unfold hasK; simp [HCU.out hh]
        have E2 := Lib.hid (HCU.out hh)
        clear b2
        have HH := Lib.hid hh
        clear hh
        cases no8 : hasK r 8
        · have E8 := Lib.hid (show r.wk = 0 by simpa [hasK] using no8)
          clear b8
          have HPS : Hid (partsV r = (((((([] ++ optK r 0) ++ optK r 3) ++ optK r 4) ++ optK r 5) ++ optK r 6) ++ optK r 7)) := Lib.hid (by
            rw [partsV_is]
            have e1 : optK r 1 = [] := by unfold optK; rw [if_neg (by rw [no1]; decide)]
            have e2 : optK r 2 = [] := by unfold optK; rw [if_neg (by rw [no2]; decide)]
            have e8 : optK r 8 = [] := by unfold optK; rw [if_neg (by rw [no8]; decide)]
            rw [e1, e2, e8]
            simp)
          have HX3 := Lib.hid hx3
          have HU := Lib.hid hu
          clear hu no1 no2 no8 hx3
          go_enter Tryz.func13, Tryz.ntmps13
          go_wp2_with (first
            | (go_at_call 11; refine cF.mono ?_; rintro e W1 ⟨rfl, hb⟩; clear cF
               have P1 : Hid (PSt (w.alloc (.cells #[.int .i64 r.freq, .int .i64 r.intv, .int .i64 r.cnt, .bool r.has, .int .i64 r.unt.secs, .bool r.unt.utc, .bool r.unt.date, .slice a1 r.mon.length c1, .slice a2 r.md.length c2, .slice a3 r.dys.length c3, .slice a4 r.pos.length c4, .int .i64 r.wk] 27)) W1 (.slice none 0 0) []) := Lib.hid ⟨hb, World.ownsRow_nil _ _ _ _, by simp⟩
               clear hb
               have t0 : W1.cell? ⟨w.heap.size, 0, none⟩ = some (.int .i64 r.freq) := CELL.out W1 P1.out.bel 0 _ rfl
               have t1 : W1.cell? ⟨w.heap.size, 1, none⟩ = some (.int .i64 1) := (CELL.out W1 P1.out.bel 1 (.int .i64 r.intv) rfl).trans (by rw [E1.out])
               have t2 : W1.cell? ⟨w.heap.size, 2, none⟩ = some (.int .i64 0) := (CELL.out W1 P1.out.bel 2 (.int .i64 r.cnt) rfl).trans (by rw [E2.out])
               have t3 : W1.cell? ⟨w.heap.size, 3, none⟩ = some (.bool true) := (CELL.out W1 P1.out.bel 3 (.bool r.has) rfl).trans (by rw [HH.out])
               have t4 : W1.cell? ⟨w.heap.size, 4, none⟩ = some (.int .i64 r.unt.secs) := CELL.out W1 P1.out.bel 4 _ rfl
               have t5 : W1.cell? ⟨w.heap.size, 5, none⟩ = some (.bool r.unt.utc) := CELL.out W1 P1.out.bel 5 _ rfl
               have t6 : W1.cell? ⟨w.heap.size, 6, none⟩ = some (.bool r.unt.date) := CELL.out W1 P1.out.bel 6 _ rfl
               have t7 : W1.cell? ⟨w.heap.size, 7, none⟩ = some (.slice a1 r.mon.length c1) := CELL.out W1 P1.out.bel 7 _ rfl
               have t8 : W1.cell? ⟨w.heap.size, 8, none⟩ = some (.slice a2 r.md.length c2) := CELL.out W1 P1.out.bel 8 _ rfl
               have t9 : W1.cell? ⟨w.heap.size, 9, none⟩ = some (.slice a3 r.dys.length c3) := CELL.out W1 P1.out.bel 9 _ rfl
               have t10 : W1.cell? ⟨w.heap.size, 10, none⟩ = some (.slice a4 r.pos.length c4) := CELL.out W1 P1.out.bel 10 _ rfl
               have t11 : W1.cell? ⟨w.heap.size, 11, none⟩ = some (.int .i64 0) := (CELL.out W1 P1.out.bel 11 (.int .i64 r.wk) rfl).trans (by rw [E8.out]))
            | (go_at_call 34; ((with_reducible refine (prn0 r hF w W1 (.slice none 0 0) _ _ HV.out (BW.out W1 P1.out.bel) P1.out.bel.size (by have := P1.out.len; omega) P1.out.own).mono ?_)); rintro e W2 ⟨x2, rfl, ho, hb⟩
               have P2 : Hid (PSt (w.alloc (.cells #[.int .i64 r.freq, .int .i64 r.intv, .int .i64 r.cnt, .bool r.has, .int .i64 r.unt.secs, .bool r.unt.utc, .bool r.unt.date, .slice a1 r.mon.length c1, .slice a2 r.md.length c2, .slice a3 r.dys.length c3, .slice a4 r.pos.length c4, .int .i64 r.wk] 27)) W2 x2 ([] ++ optK r 0)) := Lib.hid ⟨P1.out.bel.trans ((((Below.refl _ W1).alloc (Nat.le_refl _) _).mono P1.out.bel.size).trans hb), ho, by have := optK_len r 0; have := optK_len r 1; have := optK_len r 2; have := optK_len r 3; have := optK_len r 4; have := optK_len r 5; have := optK_len r 6; have := optK_len r 7; have := optK_len r 8; simp only [List.length_append, List.length_nil]; omega⟩
               clear hb ho
               clear t0 t1 t2 t3 t4 t5 t6 t7 t8 t9 t10 t11
               have t0 : W2.cell? ⟨w.heap.size, 0, none⟩ = some (.int .i64 r.freq) := CELL.out W2 P2.out.bel 0 _ rfl
               have t1 : W2.cell? ⟨w.heap.size, 1, none⟩ = some (.int .i64 1) := (CELL.out W2 P2.out.bel 1 (.int .i64 r.intv) rfl).trans (by rw [E1.out])
               have t2 : W2.cell? ⟨w.heap.size, 2, none⟩ = some (.int .i64 0) := (CELL.out W2 P2.out.bel 2 (.int .i64 r.cnt) rfl).trans (by rw [E2.out])
               have t3 : W2.cell? ⟨w.heap.size, 3, none⟩ = some (.bool true) := (CELL.out W2 P2.out.bel 3 (.bool r.has) rfl).trans (by rw [HH.out])
               have t4 : W2.cell? ⟨w.heap.size, 4, none⟩ = some (.int .i64 r.unt.secs) := CELL.out W2 P2.out.bel 4 _ rfl
               have t5 : W2.cell? ⟨w.heap.size, 5, none⟩ = some (.bool r.unt.utc) := CELL.out W2 P2.out.bel 5 _ rfl
               have t6 : W2.cell? ⟨w.heap.size, 6, none⟩ = some (.bool r.unt.date) := CELL.out W2 P2.out.bel 6 _ rfl
               have t7 : W2.cell? ⟨w.heap.size, 7, none⟩ = some (.slice a1 r.mon.length c1) := CELL.out W2 P2.out.bel 7 _ rfl
               have t8 : W2.cell? ⟨w.heap.size, 8, none⟩ = some (.slice a2 r.md.length c2) := CELL.out W2 P2.out.bel 8 _ rfl
               have t9 : W2.cell? ⟨w.heap.size, 9, none⟩ = some (.slice a3 r.dys.length c3) := CELL.out W2 P2.out.bel 9 _ rfl
               have t10 : W2.cell? ⟨w.heap.size, 10, none⟩ = some (.slice a4 r.pos.length c4) := CELL.out W2 P2.out.bel 10 _ rfl
               have t11 : W2.cell? ⟨w.heap.size, 11, none⟩ = some (.int .i64 0) := (CELL.out W2 P2.out.bel 11 (.int .i64 r.wk) rfl).trans (by rw [E8.out]))
            | (go_at_call 37; ((with_reducible refine (prn3 r hF HX3.out HU.out w W2 x2 _ _ HV.out (BW.out W2 P2.out.bel) P2.out.bel.size (by have := P2.out.len; omega) P2.out.own).mono ?_)); rintro e W3 ⟨x3, rfl, ho, hb⟩
               have P3 : Hid (PSt (w.alloc (.cells #[.int .i64 r.freq, .int .i64 r.intv, .int .i64 r.cnt, .bool r.has, .int .i64 r.unt.secs, .bool r.unt.utc, .bool r.unt.date, .slice a1 r.mon.length c1, .slice a2 r.md.length c2, .slice a3 r.dys.length c3, .slice a4 r.pos.length c4, .int .i64 r.wk] 27)) W3 x3 (([] ++ optK r 0) ++ optK r 3)) := Lib.hid ⟨P2.out.bel.trans ((((Below.refl _ W2).alloc (Nat.le_refl _) _).mono P2.out.bel.size).trans hb), ho, by have := optK_len r 0; have := optK_len r 1; have := optK_len r 2; have := optK_len r 3; have := optK_len r 4; have := optK_len r 5; have := optK_len r 6; have := optK_len r 7; have := optK_len r 8; simp only [List.length_append, List.length_nil]; omega⟩
               clear hb ho
               clear t0 t1 t2 t3 t4 t5 t6 t7 t8 t9 t10 t11
               have t0 : W3.cell? ⟨w.heap.size, 0, none⟩ = some (.int .i64 r.freq) := CELL.out W3 P3.out.bel 0 _ rfl
               have t1 : W3.cell? ⟨w.heap.size, 1, none⟩ = some (.int .i64 1) := (CELL.out W3 P3.out.bel 1 (.int .i64 r.intv) rfl).trans (by rw [E1.out])
               have t2 : W3.cell? ⟨w.heap.size, 2, none⟩ = some (.int .i64 0) := (CELL.out W3 P3.out.bel 2 (.int .i64 r.cnt) rfl).trans (by rw [E2.out])
               have t3 : W3.cell? ⟨w.heap.size, 3, none⟩ = some (.bool true) := (CELL.out W3 P3.out.bel 3 (.bool r.has) rfl).trans (by rw [HH.out])
               have t4 : W3.cell? ⟨w.heap.size, 4, none⟩ = some (.int .i64 r.unt.secs) := CELL.out W3 P3.out.bel 4 _ rfl
               have t5 : W3.cell? ⟨w.heap.size, 5, none⟩ = some (.bool r.unt.utc) := CELL.out W3 P3.out.bel 5 _ rfl
               have t6 : W3.cell? ⟨w.heap.size, 6, none⟩ = some (.bool r.unt.date) := CELL.out W3 P3.out.bel 6 _ rfl
               have t7 : W3.cell? ⟨w.heap.size, 7, none⟩ = some (.slice a1 r.mon.length c1) := CELL.out W3 P3.out.bel 7 _ rfl
               have t8 : W3.cell? ⟨w.heap.size, 8, none⟩ = some (.slice a2 r.md.length c2) := CELL.out W3 P3.out.bel 8 _ rfl
               have t9 : W3.cell? ⟨w.heap.size, 9, none⟩ = some (.slice a3 r.dys.length c3) := CELL.out W3 P3.out.bel 9 _ rfl
               have t10 : W3.cell? ⟨w.heap.size, 10, none⟩ = some (.slice a4 r.pos.length c4) := CELL.out W3 P3.out.bel 10 _ rfl
               have t11 : W3.cell? ⟨w.heap.size, 11, none⟩ = some (.int .i64 0) := (CELL.out W3 P3.out.bel 11 (.int .i64 r.wk) rfl).trans (by rw [E8.out]))
            | (go_at_call 34; ((with_reducible refine (prn4 r hF w W3 x3 (.slice a1 r.mon.length c1) _ _ HV.out (BW.out W3 P3.out.bel) P3.out.bel.size (by have := P3.out.len; omega) P3.out.own (HS.out.s1.step (BW.out W3 P3.out.bel))).mono ?_)); rintro e W4 ⟨x4, rfl, ho, hb⟩
               have P4 : Hid (PSt (w.alloc (.cells #[.int .i64 r.freq, .int .i64 r.intv, .int .i64 r.cnt, .bool r.has, .int .i64 r.unt.secs, .bool r.unt.utc, .bool r.unt.date, .slice a1 r.mon.length c1, .slice a2 r.md.length c2, .slice a3 r.dys.length c3, .slice a4 r.pos.length c4, .int .i64 r.wk] 27)) W4 x4 ((([] ++ optK r 0) ++ optK r 3) ++ optK r 4)) := Lib.hid ⟨P3.out.bel.trans hb, ho, by have := optK_len r 0; have := optK_len r 1; have := optK_len r 2; have := optK_len r 3; have := optK_len r 4; have := optK_len r 5; have := optK_len r 6; have := optK_len r 7; have := optK_len r 8; simp only [List.length_append, List.length_nil]; omega⟩
               clear hb ho
               clear t0 t1 t2 t3 t4 t5 t6 t7 t8 t9 t10 t11
               have t0 : W4.cell? ⟨w.heap.size, 0, none⟩ = some (.int .i64 r.freq) := CELL.out W4 P4.out.bel 0 _ rfl
               have t1 : W4.cell? ⟨w.heap.size, 1, none⟩ = some (.int .i64 1) := (CELL.out W4 P4.out.bel 1 (.int .i64 r.intv) rfl).trans (by rw [E1.out])
               have t2 : W4.cell? ⟨w.heap.size, 2, none⟩ = some (.int .i64 0) := (CELL.out W4 P4.out.bel 2 (.int .i64 r.cnt) rfl).trans (by rw [E2.out])
               have t3 : W4.cell? ⟨w.heap.size, 3, none⟩ = some (.bool true) := (CELL.out W4 P4.out.bel 3 (.bool r.has) rfl).trans (by rw [HH.out])
               have t4 : W4.cell? ⟨w.heap.size, 4, none⟩ = some (.int .i64 r.unt.secs) := CELL.out W4 P4.out.bel 4 _ rfl
               have t5 : W4.cell? ⟨w.heap.size, 5, none⟩ = some (.bool r.unt.utc) := CELL.out W4 P4.out.bel 5 _ rfl
               have t6 : W4.cell? ⟨w.heap.size, 6, none⟩ = some (.bool r.unt.date) := CELL.out W4 P4.out.bel 6 _ rfl
               have t7 : W4.cell? ⟨w.heap.size, 7, none⟩ = some (.slice a1 r.mon.length c1) := CELL.out W4 P4.out.bel 7 _ rfl
               have t8 : W4.cell? ⟨w.heap.size, 8, none⟩ = some (.slice a2 r.md.length c2) := CELL.out W4 P4.out.bel 8 _ rfl
               have t9 : W4.cell? ⟨w.heap.size, 9, none⟩ = some (.slice a3 r.dys.length c3) := CELL.out W4 P4.out.bel 9 _ rfl
               have t10 : W4.cell? ⟨w.heap.size, 10, none⟩ = some (.slice a4 r.pos.length c4) := CELL.out W4 P4.out.bel 10 _ rfl
               have t11 : W4.cell? ⟨w.heap.size, 11, none⟩ = some (.int .i64 0) := (CELL.out W4 P4.out.bel 11 (.int .i64 r.wk) rfl).trans (by rw [E8.out]))
            | (go_at_call 34; ((with_reducible refine (prn5 r hF w W4 x4 (.slice a2 r.md.length c2) _ _ HV.out (BW.out W4 P4.out.bel) P4.out.bel.size (by have := P4.out.len; omega) P4.out.own (HS.out.s2.step (BW.out W4 P4.out.bel))).mono ?_)); rintro e W5 ⟨x5, rfl, ho, hb⟩
               have P5 : Hid (PSt (w.alloc (.cells #[.int .i64 r.freq, .int .i64 r.intv, .int .i64 r.cnt, .bool r.has, .int .i64 r.unt.secs, .bool r.unt.utc, .bool r.unt.date, .slice a1 r.mon.length c1, .slice a2 r.md.length c2, .slice a3 r.dys.length c3, .slice a4 r.pos.length c4, .int .i64 r.wk] 27)) W5 x5 (((([] ++ optK r 0) ++ optK r 3) ++ optK r 4) ++ optK r 5)) := Lib.hid ⟨P4.out.bel.trans hb, ho, by have := optK_len r 0; have := optK_len r 1; have := optK_len r 2; have := optK_len r 3; have := optK_len r 4; have := optK_len r 5; have := optK_len r 6; have := optK_len r 7; have := optK_len r 8; simp only [List.length_append, List.length_nil]; omega⟩
               clear hb ho
               clear t0 t1 t2 t3 t4 t5 t6 t7 t8 t9 t10 t11
               have t0 : W5.cell? ⟨w.heap.size, 0, none⟩ = some (.int .i64 r.freq) := CELL.out W5 P5.out.bel 0 _ rfl
               have t1 : W5.cell? ⟨w.heap.size, 1, none⟩ = some (.int .i64 1) := (CELL.out W5 P5.out.bel 1 (.int .i64 r.intv) rfl).trans (by rw [E1.out])
               have t2 : W5.cell? ⟨w.heap.size, 2, none⟩ = some (.int .i64 0) := (CELL.out W5 P5.out.bel 2 (.int .i64 r.cnt) rfl).trans (by rw [E2.out])
               have t3 : W5.cell? ⟨w.heap.size, 3, none⟩ = some (.bool true) := (CELL.out W5 P5.out.bel 3 (.bool r.has) rfl).trans (by rw [HH.out])
               have t4 : W5.cell? ⟨w.heap.size, 4, none⟩ = some (.int .i64 r.unt.secs) := CELL.out W5 P5.out.bel 4 _ rfl
               have t5 : W5.cell? ⟨w.heap.size, 5, none⟩ = some (.bool r.unt.utc) := CELL.out W5 P5.out.bel 5 _ rfl
               have t6 : W5.cell? ⟨w.heap.size, 6, none⟩ = some (.bool r.unt.date) := CELL.out W5 P5.out.bel 6 _ rfl
               have t7 : W5.cell? ⟨w.heap.size, 7, none⟩ = some (.slice a1 r.mon.length c1) := CELL.out W5 P5.out.bel 7 _ rfl
               have t8 : W5.cell? ⟨w.heap.size, 8, none⟩ = some (.slice a2 r.md.length c2) := CELL.out W5 P5.out.bel 8 _ rfl
               have t9 : W5.cell? ⟨w.heap.size, 9, none⟩ = some (.slice a3 r.dys.length c3) := CELL.out W5 P5.out.bel 9 _ rfl
               have t10 : W5.cell? ⟨w.heap.size, 10, none⟩ = some (.slice a4 r.pos.length c4) := CELL.out W5 P5.out.bel 10 _ rfl
               have t11 : W5.cell? ⟨w.heap.size, 11, none⟩ = some (.int .i64 0) := (CELL.out W5 P5.out.bel 11 (.int .i64 r.wk) rfl).trans (by rw [E8.out]))
            | (go_at_call 39; ((with_reducible refine (prn6 r hF w W5 x5 (.slice a3 r.dys.length c3) _ _ HV.out (BW.out W5 P5.out.bel) P5.out.bel.size (by have := P5.out.len; omega) P5.out.own (HS.out.s3.step (BW.out W5 P5.out.bel))).mono ?_)); rintro e W6 ⟨x6, rfl, ho, hb⟩
               have P6 : Hid (PSt (w.alloc (.cells #[.int .i64 r.freq, .int .i64 r.intv, .int .i64 r.cnt, .bool r.has, .int .i64 r.unt.secs, .bool r.unt.utc, .bool r.unt.date, .slice a1 r.mon.length c1, .slice a2 r.md.length c2, .slice a3 r.dys.length c3, .slice a4 r.pos.length c4, .int .i64 r.wk] 27)) W6 x6 ((((([] ++ optK r 0) ++ optK r 3) ++ optK r 4) ++ optK r 5) ++ optK r 6)) := Lib.hid ⟨P5.out.bel.trans hb, ho, by have := optK_len r 0; have := optK_len r 1; have := optK_len r 2; have := optK_len r 3; have := optK_len r 4; have := optK_len r 5; have := optK_len r 6; have := optK_len r 7; have := optK_len r 8; simp only [List.length_append, List.length_nil]; omega⟩
               clear hb ho
               clear t0 t1 t2 t3 t4 t5 t6 t7 t8 t9 t10 t11
               have t0 : W6.cell? ⟨w.heap.size, 0, none⟩ = some (.int .i64 r.freq) := CELL.out W6 P6.out.bel 0 _ rfl
               have t1 : W6.cell? ⟨w.heap.size, 1, none⟩ = some (.int .i64 1) := (CELL.out W6 P6.out.bel 1 (.int .i64 r.intv) rfl).trans (by rw [E1.out])
               have t2 : W6.cell? ⟨w.heap.size, 2, none⟩ = some (.int .i64 0) := (CELL.out W6 P6.out.bel 2 (.int .i64 r.cnt) rfl).trans (by rw [E2.out])
               have t3 : W6.cell? ⟨w.heap.size, 3, none⟩ = some (.bool true) := (CELL.out W6 P6.out.bel 3 (.bool r.has) rfl).trans (by rw [HH.out])
               have t4 : W6.cell? ⟨w.heap.size, 4, none⟩ = some (.int .i64 r.unt.secs) := CELL.out W6 P6.out.bel 4 _ rfl
               have t5 : W6.cell? ⟨w.heap.size, 5, none⟩ = some (.bool r.unt.utc) := CELL.out W6 P6.out.bel 5 _ rfl
               have t6 : W6.cell? ⟨w.heap.size, 6, none⟩ = some (.bool r.unt.date) := CELL.out W6 P6.out.bel 6 _ rfl
               have t7 : W6.cell? ⟨w.heap.size, 7, none⟩ = some (.slice a1 r.mon.length c1) := CELL.out W6 P6.out.bel 7 _ rfl
               have t8 : W6.cell? ⟨w.heap.size, 8, none⟩ = some (.slice a2 r.md.length c2) := CELL.out W6 P6.out.bel 8 _ rfl
               have t9 : W6.cell? ⟨w.heap.size, 9, none⟩ = some (.slice a3 r.dys.length c3) := CELL.out W6 P6.out.bel 9 _ rfl
               have t10 : W6.cell? ⟨w.heap.size, 10, none⟩ = some (.slice a4 r.pos.length c4) := CELL.out W6 P6.out.bel 10 _ rfl
               have t11 : W6.cell? ⟨w.heap.size, 11, none⟩ = some (.int .i64 0) := (CELL.out W6 P6.out.bel 11 (.int .i64 r.wk) rfl).trans (by rw [E8.out]))
            | (go_at_call 34; ((with_reducible refine (prn7 r hF w W6 x6 (.slice a4 r.pos.length c4) _ _ HV.out (BW.out W6 P6.out.bel) P6.out.bel.size (by have := P6.out.len; omega) P6.out.own (HS.out.s4.step (BW.out W6 P6.out.bel))).mono ?_)); rintro e W7 ⟨x7, rfl, ho, hb⟩
               have P7 : Hid (PSt (w.alloc (.cells #[.int .i64 r.freq, .int .i64 r.intv, .int .i64 r.cnt, .bool r.has, .int .i64 r.unt.secs, .bool r.unt.utc, .bool r.unt.date, .slice a1 r.mon.length c1, .slice a2 r.md.length c2, .slice a3 r.dys.length c3, .slice a4 r.pos.length c4, .int .i64 r.wk] 27)) W7 x7 (((((([] ++ optK r 0) ++ optK r 3) ++ optK r 4) ++ optK r 5) ++ optK r 6) ++ optK r 7)) := Lib.hid ⟨P6.out.bel.trans hb, ho, by have := optK_len r 0; have := optK_len r 1; have := optK_len r 2; have := optK_len r 3; have := optK_len r 4; have := optK_len r 5; have := optK_len r 6; have := optK_len r 7; have := optK_len r 8; simp only [List.length_append, List.length_nil]; omega⟩
               clear hb ho
               clear t0 t1 t2 t3 t4 t5 t6 t7 t8 t9 t10 t11
               have t0 : W7.cell? ⟨w.heap.size, 0, none⟩ = some (.int .i64 r.freq) := CELL.out W7 P7.out.bel 0 _ rfl
               have t1 : W7.cell? ⟨w.heap.size, 1, none⟩ = some (.int .i64 1) := (CELL.out W7 P7.out.bel 1 (.int .i64 r.intv) rfl).trans (by rw [E1.out])
               have t2 : W7.cell? ⟨w.heap.size, 2, none⟩ = some (.int .i64 0) := (CELL.out W7 P7.out.bel 2 (.int .i64 r.cnt) rfl).trans (by rw [E2.out])
               have t3 : W7.cell? ⟨w.heap.size, 3, none⟩ = some (.bool true) := (CELL.out W7 P7.out.bel 3 (.bool r.has) rfl).trans (by rw [HH.out])
               have t4 : W7.cell? ⟨w.heap.size, 4, none⟩ = some (.int .i64 r.unt.secs) := CELL.out W7 P7.out.bel 4 _ rfl
               have t5 : W7.cell? ⟨w.heap.size, 5, none⟩ = some (.bool r.unt.utc) := CELL.out W7 P7.out.bel 5 _ rfl
               have t6 : W7.cell? ⟨w.heap.size, 6, none⟩ = some (.bool r.unt.date) := CELL.out W7 P7.out.bel 6 _ rfl
               have t7 : W7.cell? ⟨w.heap.size, 7, none⟩ = some (.slice a1 r.mon.length c1) := CELL.out W7 P7.out.bel 7 _ rfl
               have t8 : W7.cell? ⟨w.heap.size, 8, none⟩ = some (.slice a2 r.md.length c2) := CELL.out W7 P7.out.bel 8 _ rfl
               have t9 : W7.cell? ⟨w.heap.size, 9, none⟩ = some (.slice a3 r.dys.length c3) := CELL.out W7 P7.out.bel 9 _ rfl
               have t10 : W7.cell? ⟨w.heap.size, 10, none⟩ = some (.slice a4 r.pos.length c4) := CELL.out W7 P7.out.bel 10 _ rfl
               have t11 : W7.cell? ⟨w.heap.size, 11, none⟩ = some (.int .i64 0) := (CELL.out W7 P7.out.bel 11 (.int .i64 r.wk) rfl).trans (by rw [E8.out]))
            | (go_at_call 42; refine (joinP P7.out (by rw [← HPS.out]; exact partsV_ne r) (by rw [← HPS.out]; exact parts_max hF)).mono ?_; rintro e W9 ⟨rfl, hb⟩; have HB9 := Lib.hid (BW.out _ (P7.out.bel.trans (hb.mono P7.out.bel.size))); clear hb))
          go_ret
          exact ⟨by rw [HP.out, HPS.out]; first | rfl | simp, HB9.out⟩
        · have hx8 := no8
          rw [no8] at b8
          clear no8
          have HPS : Hid (partsV r = ((((((([] ++ optK r 0) ++ optK r 3) ++ optK r 4) ++ optK r 5) ++ optK r 6) ++ optK r 7) ++ optK r 8)) := Lib.hid (by
            rw [partsV_is]
            have e1 : optK r 1 = [] := by unfold optK; rw [if_neg (by rw [no1]; decide)]
            have e2 : optK r 2 = [] := by unfold optK; rw [if_neg (by rw [no2]; decide)]
            rw [e1, e2]
            simp)
          have HX3 := Lib.hid hx3
          have HX8 := Lib.hid hx8
          have HU := Lib.hid hu
          clear hu no1 no2 hx3 hx8
          go_enter Tryz.func13, Tryz.ntmps13
          go_wp2_with (first
            | (go_at_call 11; refine cF.mono ?_; rintro e W1 ⟨rfl, hb⟩; clear cF
               have P1 : Hid (PSt (w.alloc (.cells #[.int .i64 r.freq, .int .i64 r.intv, .int .i64 r.cnt, .bool r.has, .int .i64 r.unt.secs, .bool r.unt.utc, .bool r.unt.date, .slice a1 r.mon.length c1, .slice a2 r.md.length c2, .slice a3 r.dys.length c3, .slice a4 r.pos.length c4, .int .i64 r.wk] 27)) W1 (.slice none 0 0) []) := Lib.hid ⟨hb, World.ownsRow_nil _ _ _ _, by simp⟩
               clear hb
               have t0 : W1.cell? ⟨w.heap.size, 0, none⟩ = some (.int .i64 r.freq) := CELL.out W1 P1.out.bel 0 _ rfl
               have t1 : W1.cell? ⟨w.heap.size, 1, none⟩ = some (.int .i64 1) := (CELL.out W1 P1.out.bel 1 (.int .i64 r.intv) rfl).trans (by rw [E1.out])
               have t2 : W1.cell? ⟨w.heap.size, 2, none⟩ = some (.int .i64 0) := (CELL.out W1 P1.out.bel 2 (.int .i64 r.cnt) rfl).trans (by rw [E2.out])
               have t3 : W1.cell? ⟨w.heap.size, 3, none⟩ = some (.bool true) := (CELL.out W1 P1.out.bel 3 (.bool r.has) rfl).trans (by rw [HH.out])
               have t4 : W1.cell? ⟨w.heap.size, 4, none⟩ = some (.int .i64 r.unt.secs) := CELL.out W1 P1.out.bel 4 _ rfl
               have t5 : W1.cell? ⟨w.heap.size, 5, none⟩ = some (.bool r.unt.utc) := CELL.out W1 P1.out.bel 5 _ rfl
               have t6 : W1.cell? ⟨w.heap.size, 6, none⟩ = some (.bool r.unt.date) := CELL.out W1 P1.out.bel 6 _ rfl
               have t7 : W1.cell? ⟨w.heap.size, 7, none⟩ = some (.slice a1 r.mon.length c1) := CELL.out W1 P1.out.bel 7 _ rfl
               have t8 : W1.cell? ⟨w.heap.size, 8, none⟩ = some (.slice a2 r.md.length c2) := CELL.out W1 P1.out.bel 8 _ rfl
               have t9 : W1.cell? ⟨w.heap.size, 9, none⟩ = some (.slice a3 r.dys.length c3) := CELL.out W1 P1.out.bel 9 _ rfl
               have t10 : W1.cell? ⟨w.heap.size, 10, none⟩ = some (.slice a4 r.pos.length c4) := CELL.out W1 P1.out.bel 10 _ rfl
               have t11 : W1.cell? ⟨w.heap.size, 11, none⟩ = some (.int .i64 r.wk) := CELL.out W1 P1.out.bel 11 _ rfl)
            | (go_at_call 34; ((with_reducible refine (prn0 r hF w W1 (.slice none 0 0) _ _ HV.out (BW.out W1 P1.out.bel) P1.out.bel.size (by have := P1.out.len; omega) P1.out.own).mono ?_)); rintro e W2 ⟨x2, rfl, ho, hb⟩
               have P2 : Hid (PSt (w.alloc (.cells #[.int .i64 r.freq, .int .i64 r.intv, .int .i64 r.cnt, .bool r.has, .int .i64 r.unt.secs, .bool r.unt.utc, .bool r.unt.date, .slice a1 r.mon.length c1, .slice a2 r.md.length c2, .slice a3 r.dys.length c3, .slice a4 r.pos.length c4, .int .i64 r.wk] 27)) W2 x2 ([] ++ optK r 0)) := Lib.hid ⟨P1.out.bel.trans ((((Below.refl _ W1).alloc (Nat.le_refl _) _).mono P1.out.bel.size).trans hb), ho, by have := optK_len r 0; have := optK_len r 1; have := optK_len r 2; have := optK_len r 3; have := optK_len r 4; have := optK_len r 5; have := optK_len r 6; have := optK_len r 7; have := optK_len r 8; simp only [List.length_append, List.length_nil]; omega⟩
               clear hb ho
               clear t0 t1 t2 t3 t4 t5 t6 t7 t8 t9 t10 t11
               have t0 : W2.cell? ⟨w.heap.size, 0, none⟩ = some (.int .i64 r.freq) := CELL.out W2 P2.out.bel 0 _ rfl
               have t1 : W2.cell? ⟨w.heap.size, 1, none⟩ = some (.int .i64 1) := (CELL.out W2 P2.out.bel 1 (.int .i64 r.intv) rfl).trans (by rw [E1.out])
               have t2 : W2.cell? ⟨w.heap.size, 2, none⟩ = some (.int .i64 0) := (CELL.out W2 P2.out.bel 2 (.int .i64 r.cnt) rfl).trans (by rw [E2.out])
               have t3 : W2.cell? ⟨w.heap.size, 3, none⟩ = some (.bool true) := (CELL.out W2 P2.out.bel 3 (.bool r.has) rfl).trans (by rw [HH.out])
               have t4 : W2.cell? ⟨w.heap.size, 4, none⟩ = some (.int .i64 r.unt.secs) := CELL.out W2 P2.out.bel 4 _ rfl
               have t5 : W2.cell? ⟨w.heap.size, 5, none⟩ = some (.bool r.unt.utc) := CELL.out W2 P2.out.bel 5 _ rfl
               have t6 : W2.cell? ⟨w.heap.size, 6, none⟩ = some (.bool r.unt.date) := CELL.out W2 P2.out.bel 6 _ rfl
               have t7 : W2.cell? ⟨w.heap.size, 7, none⟩ = some (.slice a1 r.mon.length c1) := CELL.out W2 P2.out.bel 7 _ rfl
               have t8 : W2.cell? ⟨w.heap.size, 8, none⟩ = some (.slice a2 r.md.length c2) := CELL.out W2 P2.out.bel 8 _ rfl
               have t9 : W2.cell? ⟨w.heap.size, 9, none⟩ = some (.slice a3 r.dys.length c3) := CELL.out W2 P2.out.bel 9 _ rfl
               have t10 : W2.cell? ⟨w.heap.size, 10, none⟩ = some (.slice a4 r.pos.length c4) := CELL.out W2 P2.out.bel 10 _ rfl
               have t11 : W2.cell? ⟨w.heap.size, 11, none⟩ = some (.int .i64 r.wk) := CELL.out W2 P2.out.bel 11 _ rfl)
            | (go_at_call 37; ((with_reducible refine (prn3 r hF HX3.out HU.out w W2 x2 _ _ HV.out (BW.out W2 P2.out.bel) P2.out.bel.size (by have := P2.out.len; omega) P2.out.own).mono ?_)); rintro e W3 ⟨x3, rfl, ho, hb⟩
               have P3 : Hid (PSt (w.alloc (.cells #[.int .i64 r.freq, .int .i64 r.intv, .int .i64 r.cnt, .bool r.has, .int .i64 r.unt.secs, .bool r.unt.utc, .bool r.unt.date, .slice a1 r.mon.length c1, .slice a2 r.md.length c2, .slice a3 r.dys.length c3, .slice a4 r.pos.length c4, .int .i64 r.wk] 27)) W3 x3 (([] ++ optK r 0) ++ optK r 3)) := Lib.hid ⟨P2.out.bel.trans ((((Below.refl _ W2).alloc (Nat.le_refl _) _).mono P2.out.bel.size).trans hb), ho, by have := optK_len r 0; have := optK_len r 1; have := optK_len r 2; have := optK_len r 3; have := optK_len r 4; have := optK_len r 5; have := optK_len r 6; have := optK_len r 7; have := optK_len r 8; simp only [List.length_append, List.length_nil]; omega⟩
               clear hb ho
               clear t0 t1 t2 t3 t4 t5 t6 t7 t8 t9 t10 t11
               have t0 : W3.cell? ⟨w.heap.size, 0, none⟩ = some (.int .i64 r.freq) := CELL.out W3 P3.out.bel 0 _ rfl
               have t1 : W3.cell? ⟨w.heap.size, 1, none⟩ = some (.int .i64 1) := (CELL.out W3 P3.out.bel 1 (.int .i64 r.intv) rfl).trans (by rw [E1.out])
               have t2 : W3.cell? ⟨w.heap.size, 2, none⟩ = some (.int .i64 0) := (CELL.out W3 P3.out.bel 2 (.int .i64 r.cnt) rfl).trans (by rw [E2.out])
               have t3 : W3.cell? ⟨w.heap.size, 3, none⟩ = some (.bool true) := (CELL.out W3 P3.out.bel 3 (.bool r.has) rfl).trans (by rw [HH.out])
               have t4 : W3.cell? ⟨w.heap.size, 4, none⟩ = some (.int .i64 r.unt.secs) := CELL.out W3 P3.out.bel 4 _ rfl
               have t5 : W3.cell? ⟨w.heap.size, 5, none⟩ = some (.bool r.unt.utc) := CELL.out W3 P3.out.bel 5 _ rfl
               have t6 : W3.cell? ⟨w.heap.size, 6, none⟩ = some (.bool r.unt.date) := CELL.out W3 P3.out.bel 6 _ rfl
               have t7 : W3.cell? ⟨w.heap.size, 7, none⟩ = some (.slice a1 r.mon.length c1) := CELL.out W3 P3.out.bel 7 _ rfl
               have t8 : W3.cell? ⟨w.heap.size, 8, none⟩ = some (.slice a2 r.md.length c2) := CELL.out W3 P3.out.bel 8 _ rfl
               have t9 : W3.cell? ⟨w.heap.size, 9, none⟩ = some (.slice a3 r.dys.length c3) := CELL.out W3 P3.out.bel 9 _ rfl
               have t10 : W3.cell? ⟨w.heap.size, 10, none⟩ = some (.slice a4 r.pos.length c4) := CELL.out W3 P3.out.bel 10 _ rfl
               have t11 : W3.cell? ⟨w.heap.size, 11, none⟩ = some (.int .i64 r.wk) := CELL.out W3 P3.out.bel 11 _ rfl)
            | (go_at_call 34; ((with_reducible refine (prn4 r hF w W3 x3 (.slice a1 r.mon.length c1) _ _ HV.out (BW.out W3 P3.out.bel) P3.out.bel.size (by have := P3.out.len; omega) P3.out.own (HS.out.s1.step (BW.out W3 P3.out.bel))).mono ?_)); rintro e W4 ⟨x4, rfl, ho, hb⟩
               have P4 : Hid (PSt (w.alloc (.cells #[.int .i64 r.freq, .int .i64 r.intv, .int .i64 r.cnt, .bool r.has, .int .i64 r.unt.secs, .bool r.unt.utc, .bool r.unt.date, .slice a1 r.mon.length c1, .slice a2 r.md.length c2, .slice a3 r.dys.length c3, .slice a4 r.pos.length c4, .int .i64 r.wk] 27)) W4 x4 ((([] ++ optK r 0) ++ optK r 3) ++ optK r 4)) := Lib.hid ⟨P3.out.bel.trans hb, ho, by have := optK_len r 0; have := optK_len r 1; have := optK_len r 2; have := optK_len r 3; have := optK_len r 4; have := optK_len r 5; have := optK_len r 6; have := optK_len r 7; have := optK_len r 8; simp only [List.length_append, List.length_nil]; omega⟩
               clear hb ho
               clear t0 t1 t2 t3 t4 t5 t6 t7 t8 t9 t10 t11
               have t0 : W4.cell? ⟨w.heap.size, 0, none⟩ = some (.int .i64 r.freq) := CELL.out W4 P4.out.bel 0 _ rfl
               have t1 : W4.cell? ⟨w.heap.size, 1, none⟩ = some (.int .i64 1) := (CELL.out W4 P4.out.bel 1 (.int .i64 r.intv) rfl).trans (by rw [E1.out])
               have t2 : W4.cell? ⟨w.heap.size, 2, none⟩ = some (.int .i64 0) := (CELL.out W4 P4.out.bel 2 (.int .i64 r.cnt) rfl).trans (by rw [E2.out])
               have t3 : W4.cell? ⟨w.heap.size, 3, none⟩ = some (.bool true) := (CELL.out W4 P4.out.bel 3 (.bool r.has) rfl).trans (by rw [HH.out])
               have t4 : W4.cell? ⟨w.heap.size, 4, none⟩ = some (.int .i64 r.unt.secs) := CELL.out W4 P4.out.bel 4 _ rfl
               have t5 : W4.cell? ⟨w.heap.size, 5, none⟩ = some (.bool r.unt.utc) := CELL.out W4 P4.out.bel 5 _ rfl
               have t6 : W4.cell? ⟨w.heap.size, 6, none⟩ = some (.bool r.unt.date) := CELL.out W4 P4.out.bel 6 _ rfl
               have t7 : W4.cell? ⟨w.heap.size, 7, none⟩ = some (.slice a1 r.mon.length c1) := CELL.out W4 P4.out.bel 7 _ rfl
               have t8 : W4.cell? ⟨w.heap.size, 8, none⟩ = some (.slice a2 r.md.length c2) := CELL.out W4 P4.out.bel 8 _ rfl
               have t9 : W4.cell? ⟨w.heap.size, 9, none⟩ = some (.slice a3 r.dys.length c3) := CELL.out W4 P4.out.bel 9 _ rfl
               have t10 : W4.cell? ⟨w.heap.size, 10, none⟩ = some (.slice a4 r.pos.length c4) := CELL.out W4 P4.out.bel 10 _ rfl
               have t11 : W4.cell? ⟨w.heap.size, 11, none⟩ = some (.int .i64 r.wk) := CELL.out W4 P4.out.bel 11 _ rfl)
            | (go_at_call 34; ((with_reducible refine (prn5 r hF w W4 x4 (.slice a2 r.md.length c2) _ _ HV.out (BW.out W4 P4.out.bel) P4.out.bel.size (by have := P4.out.len; omega) P4.out.own (HS.out.s2.step (BW.out W4 P4.out.bel))).mono ?_)); rintro e W5 ⟨x5, rfl, ho, hb⟩
               have P5 : Hid (PSt (w.alloc (.cells #[.int .i64 r.freq, .int .i64 r.intv, .int .i64 r.cnt, .bool r.has, .int .i64 r.unt.secs, .bool r.unt.utc, .bool r.unt.date, .slice a1 r.mon.length c1, .slice a2 r.md.length c2, .slice a3 r.dys.length c3, .slice a4 r.pos.length c4, .int .i64 r.wk] 27)) W5 x5 (((([] ++ optK r 0) ++ optK r 3) ++ optK r 4) ++ optK r 5)) := Lib.hid ⟨P4.out.bel.trans hb, ho, by have := optK_len r 0; have := optK_len r 1; have := optK_len r 2; have := optK_len r 3; have := optK_len r 4; have := optK_len r 5; have := optK_len r 6; have := optK_len r 7; have := optK_len r 8; simp only [List.length_append, List.length_nil]; omega⟩
               clear hb ho
               clear t0 t1 t2 t3 t4 t5 t6 t7 t8 t9 t10 t11
               have t0 : W5.cell? ⟨w.heap.size, 0, none⟩ = some (.int .i64 r.freq) := CELL.out W5 P5.out.bel 0 _ rfl
               have t1 : W5.cell? ⟨w.heap.size, 1, none⟩ = some (.int .i64 1) := (CELL.out W5 P5.out.bel 1 (.int .i64 r.intv) rfl).trans (by rw [E1.out])
               have t2 : W5.cell? ⟨w.heap.size, 2, none⟩ = some (.int .i64 0) := (CELL.out W5 P5.out.bel 2 (.int .i64 r.cnt) rfl).trans (by rw [E2.out])
               have t3 : W5.cell? ⟨w.heap.size, 3, none⟩ = some (.bool true) := (CELL.out W5 P5.out.bel 3 (.bool r.has) rfl).trans (by rw [HH.out])
               have t4 : W5.cell? ⟨w.heap.size, 4, none⟩ = some (.int .i64 r.unt.secs) := CELL.out W5 P5.out.bel 4 _ rfl
               have t5 : W5.cell? ⟨w.heap.size, 5, none⟩ = some (.bool r.unt.utc) := CELL.out W5 P5.out.bel 5 _ rfl
               have t6 : W5.cell? ⟨w.heap.size, 6, none⟩ = some (.bool r.unt.date) := CELL.out W5 P5.out.bel 6 _ rfl
               have t7 : W5.cell? ⟨w.heap.size, 7, none⟩ = some (.slice a1 r.mon.length c1) := CELL.out W5 P5.out.bel 7 _ rfl
               have t8 : W5.cell? ⟨w.heap.size, 8, none⟩ = some (.slice a2 r.md.length c2) := CELL.out W5 P5.out.bel 8 _ rfl
               have t9 : W5.cell? ⟨w.heap.size, 9, none⟩ = some (.slice a3 r.dys.length c3) := CELL.out W5 P5.out.bel 9 _ rfl
               have t10 : W5.cell? ⟨w.heap.size, 10, none⟩ = some (.slice a4 r.pos.length c4) := CELL.out W5 P5.out.bel 10 _ rfl
               have t11 : W5.cell? ⟨w.heap.size, 11, none⟩ = some (.int .i64 r.wk) := CELL.out W5 P5.out.bel 11 _ rfl)
            | (go_at_call 39; ((with_reducible refine (prn6 r hF w W5 x5 (.slice a3 r.dys.length c3) _ _ HV.out (BW.out W5 P5.out.bel) P5.out.bel.size (by have := P5.out.len; omega) P5.out.own (HS.out.s3.step (BW.out W5 P5.out.bel))).mono ?_)); rintro e W6 ⟨x6, rfl, ho, hb⟩
               have P6 : Hid (PSt (w.alloc (.cells #[.int .i64 r.freq, .int .i64 r.intv, .int .i64 r.cnt, .bool r.has, .int .i64 r.unt.secs, .bool r.unt.utc, .bool r.unt.date, .slice a1 r.mon.length c1, .slice a2 r.md.length c2, .slice a3 r.dys.length c3, .slice a4 r.pos.length c4, .int .i64 r.wk] 27)) W6 x6 ((((([] ++ optK r 0) ++ optK r 3) ++ optK r 4) ++ optK r 5) ++ optK r 6)) := Lib.hid ⟨P5.out.bel.trans hb, ho, by have := optK_len r 0; have := optK_len r 1; have := optK_len r 2; have := optK_len r 3; have := optK_len r 4; have := optK_len r 5; have := optK_len r 6; have := optK_len r 7; have := optK_len r 8; simp only [List.length_append, List.length_nil]; omega⟩
               clear hb ho
               clear t0 t1 t2 t3 t4 t5 t6 t7 t8 t9 t10 t11
               have t0 : W6.cell? ⟨w.heap.size, 0, none⟩ = some (.int .i64 r.freq) := CELL.out W6 P6.out.bel 0 _ rfl
               have t1 : W6.cell? ⟨w.heap.size, 1, none⟩ = some (.int .i64 1) := (CELL.out W6 P6.out.bel 1 (.int .i64 r.intv) rfl).trans (by rw [E1.out])
               have t2 : W6.cell? ⟨w.heap.size, 2, none⟩ = some (.int .i64 0) := (CELL.out W6 P6.out.bel 2 (.int .i64 r.cnt) rfl).trans (by rw [E2.out])
               have t3 : W6.cell? ⟨w.heap.size, 3, none⟩ = some (.bool true) := (CELL.out W6 P6.out.bel 3 (.bool r.has) rfl).trans (by rw [HH.out])
               have t4 : W6.cell? ⟨w.heap.size, 4, none⟩ = some (.int .i64 r.unt.secs) := CELL.out W6 P6.out.bel 4 _ rfl
               have t5 : W6.cell? ⟨w.heap.size, 5, none⟩ = some (.bool r.unt.utc) := CELL.out W6 P6.out.bel 5 _ rfl
               have t6 : W6.cell? ⟨w.heap.size, 6, none⟩ = some (.bool r.unt.date) := CELL.out W6 P6.out.bel 6 _ rfl
               have t7 : W6.cell? ⟨w.heap.size, 7, none⟩ = some (.slice a1 r.mon.length c1) := CELL.out W6 P6.out.bel 7 _ rfl
               have t8 : W6.cell? ⟨w.heap.size, 8, none⟩ = some (.slice a2 r.md.length c2) := CELL.out W6 P6.out.bel 8 _ rfl
               have t9 : W6.cell? ⟨w.heap.size, 9, none⟩ = some (.slice a3 r.dys.length c3) := CELL.out W6 P6.out.bel 9 _ rfl
               have t10 : W6.cell? ⟨w.heap.size, 10, none⟩ = some (.slice a4 r.pos.length c4) := CELL.out W6 P6.out.bel 10 _ rfl
               have t11 : W6.cell? ⟨w.heap.size, 11, none⟩ = some (.int .i64 r.wk) := CELL.out W6 P6.out.bel 11 _ rfl)
            | (go_at_call 34; ((with_reducible refine (prn7 r hF w W6 x6 (.slice a4 r.pos.length c4) _ _ HV.out (BW.out W6 P6.out.bel) P6.out.bel.size (by have := P6.out.len; omega) P6.out.own (HS.out.s4.step (BW.out W6 P6.out.bel))).mono ?_)); rintro e W7 ⟨x7, rfl, ho, hb⟩
               have P7 : Hid (PSt (w.alloc (.cells #[.int .i64 r.freq, .int .i64 r.intv, .int .i64 r.cnt, .bool r.has, .int .i64 r.unt.secs, .bool r.unt.utc, .bool r.unt.date, .slice a1 r.mon.length c1, .slice a2 r.md.length c2, .slice a3 r.dys.length c3, .slice a4 r.pos.length c4, .int .i64 r.wk] 27)) W7 x7 (((((([] ++ optK r 0) ++ optK r 3) ++ optK r 4) ++ optK r 5) ++ optK r 6) ++ optK r 7)) := Lib.hid ⟨P6.out.bel.trans hb, ho, by have := optK_len r 0; have := optK_len r 1; have := optK_len r 2; have := optK_len r 3; have := optK_len r 4; have := optK_len r 5; have := optK_len r 6; have := optK_len r 7; have := optK_len r 8; simp only [List.length_append, List.length_nil]; omega⟩
               clear hb ho
               clear t0 t1 t2 t3 t4 t5 t6 t7 t8 t9 t10 t11
               have t0 : W7.cell? ⟨w.heap.size, 0, none⟩ = some (.int .i64 r.freq) := CELL.out W7 P7.out.bel 0 _ rfl
               have t1 : W7.cell? ⟨w.heap.size, 1, none⟩ = some (.int .i64 1) := (CELL.out W7 P7.out.bel 1 (.int .i64 r.intv) rfl).trans (by rw [E1.out])
               have t2 : W7.cell? ⟨w.heap.size, 2, none⟩ = some (.int .i64 0) := (CELL.out W7 P7.out.bel 2 (.int .i64 r.cnt) rfl).trans (by rw [E2.out])
               have t3 : W7.cell? ⟨w.heap.size, 3, none⟩ = some (.bool true) := (CELL.out W7 P7.out.bel 3 (.bool r.has) rfl).trans (by rw [HH.out])
               have t4 : W7.cell? ⟨w.heap.size, 4, none⟩ = some (.int .i64 r.unt.secs) := CELL.out W7 P7.out.bel 4 _ rfl
               have t5 : W7.cell? ⟨w.heap.size, 5, none⟩ = some (.bool r.unt.utc) := CELL.out W7 P7.out.bel 5 _ rfl
               have t6 : W7.cell? ⟨w.heap.size, 6, none⟩ = some (.bool r.unt.date) := CELL.out W7 P7.out.bel 6 _ rfl
               have t7 : W7.cell? ⟨w.heap.size, 7, none⟩ = some (.slice a1 r.mon.length c1) := CELL.out W7 P7.out.bel 7 _ rfl
               have t8 : W7.cell? ⟨w.heap.size, 8, none⟩ = some (.slice a2 r.md.length c2) := CELL.out W7 P7.out.bel 8 _ rfl
               have t9 : W7.cell? ⟨w.heap.size, 9, none⟩ = some (.slice a3 r.dys.length c3) := CELL.out W7 P7.out.bel 9 _ rfl
               have t10 : W7.cell? ⟨w.heap.size, 10, none⟩ = some (.slice a4 r.pos.length c4) := CELL.out W7 P7.out.bel 10 _ rfl
               have t11 : W7.cell? ⟨w.heap.size, 11, none⟩ = some (.int .i64 r.wk) := CELL.out W7 P7.out.bel 11 _ rfl)
            | (go_at_call 34; ((with_reducible refine (prn8 r hF HX8.out w W7 x7 _ _ HV.out (BW.out W7 P7.out.bel) P7.out.bel.size (by have := P7.out.len; omega) P7.out.own).mono ?_)); rintro e W8 ⟨x8, rfl, ho, hb⟩
               have P8 : Hid (PSt (w.alloc (.cells #[.int .i64 r.freq, .int .i64 r.intv, .int .i64 r.cnt, .bool r.has, .int .i64 r.unt.secs, .bool r.unt.utc, .bool r.unt.date, .slice a1 r.mon.length c1, .slice a2 r.md.length c2, .slice a3 r.dys.length c3, .slice a4 r.pos.length c4, .int .i64 r.wk] 27)) W8 x8 ((((((([] ++ optK r 0) ++ optK r 3) ++ optK r 4) ++ optK r 5) ++ optK r 6) ++ optK r 7) ++ optK r 8)) := Lib.hid ⟨P7.out.bel.trans ((((Below.refl _ W7).alloc (Nat.le_refl _) _).mono P7.out.bel.size).trans hb), ho, by have := optK_len r 0; have := optK_len r 1; have := optK_len r 2; have := optK_len r 3; have := optK_len r 4; have := optK_len r 5; have := optK_len r 6; have := optK_len r 7; have := optK_len r 8; simp only [List.length_append, List.length_nil]; omega⟩
               clear hb ho
               clear t0 t1 t2 t3 t4 t5 t6 t7 t8 t9 t10 t11
               have t0 : W8.cell? ⟨w.heap.size, 0, none⟩ = some (.int .i64 r.freq) := CELL.out W8 P8.out.bel 0 _ rfl
               have t1 : W8.cell? ⟨w.heap.size, 1, none⟩ = some (.int .i64 1) := (CELL.out W8 P8.out.bel 1 (.int .i64 r.intv) rfl).trans (by rw [E1.out])
               have t2 : W8.cell? ⟨w.heap.size, 2, none⟩ = some (.int .i64 0) := (CELL.out W8 P8.out.bel 2 (.int .i64 r.cnt) rfl).trans (by rw [E2.out])
               have t3 : W8.cell? ⟨w.heap.size, 3, none⟩ = some (.bool true) := (CELL.out W8 P8.out.bel 3 (.bool r.has) rfl).trans (by rw [HH.out])
               have t4 : W8.cell? ⟨w.heap.size, 4, none⟩ = some (.int .i64 r.unt.secs) := CELL.out W8 P8.out.bel 4 _ rfl
               have t5 : W8.cell? ⟨w.heap.size, 5, none⟩ = some (.bool r.unt.utc) := CELL.out W8 P8.out.bel 5 _ rfl
               have t6 : W8.cell? ⟨w.heap.size, 6, none⟩ = some (.bool r.unt.date) := CELL.out W8 P8.out.bel 6 _ rfl
               have t7 : W8.cell? ⟨w.heap.size, 7, none⟩ = some (.slice a1 r.mon.length c1) := CELL.out W8 P8.out.bel 7 _ rfl
               have t8 : W8.cell? ⟨w.heap.size, 8, none⟩ = some (.slice a2 r.md.length c2) := CELL.out W8 P8.out.bel 8 _ rfl
               have t9 : W8.cell? ⟨w.heap.size, 9, none⟩ = some (.slice a3 r.dys.length c3) := CELL.out W8 P8.out.bel 9 _ rfl
               have t10 : W8.cell? ⟨w.heap.size, 10, none⟩ = some (.slice a4 r.pos.length c4) := CELL.out W8 P8.out.bel 10 _ rfl
               have t11 : W8.cell? ⟨w.heap.size, 11, none⟩ = some (.int .i64 r.wk) := CELL.out W8 P8.out.bel 11 _ rfl)
            | (go_at_call 42; refine (joinP P8.out (by rw [← HPS.out]; exact partsV_ne r) (by rw [← HPS.out]; exact parts_max hF)).mono ?_; rintro e W9 ⟨rfl, hb⟩; have HB9 := Lib.hid (BW.out _ (P8.out.bel.trans (hb.mono P8.out.bel.size))); clear hb))
          go_ret
          exact ⟨by rw [HP.out, HPS.out]; first | rfl | simp, HB9.out⟩
    · have hx1 := no1
      rw [no1] at b1
      clear no1
      have hor : r.has = false ∨ r.has = true := by cases r.has <;> simp
      rcases hor with hh | hh
      · have no3 : hasK r 3 = false := hh
        have HH := Lib.hid hh
        clear hh
        cases no2 : hasK r 2
        · have E2 := Lib.hid (show r.cnt = 0 by simpa [hasK] using no2)
          clear b2
          cases no8 : hasK r 8
          · have E8 := Lib.hid (show r.wk = 0 by simpa [hasK] using no8)
            clear b8
            have HPS : Hid (partsV r = (((((([] ++ optK r 0) ++ optK r 1) ++ optK r 4) ++ optK r 5) ++ optK r 6) ++ optK r 7)) := Lib.hid (by
              rw [partsV_is]
              have e2 : optK r 2 = [] := by unfold optK; rw [if_neg (by rw [no2]; decide)]
              have e3 : optK r 3 = [] := by unfold optK; rw [if_neg (by rw [no3]; decide)]
              have e8 : optK r 8 = [] := by unfold optK; rw [if_neg (by rw [no8]; decide)]
              rw [e2, e3, e8]
              simp)
            have HX1 := Lib.hid hx1
            have HU := Lib.hid hu
            clear hu no2 no3 no8 hx1
            go_enter Tryz.func13, Tryz.ntmps13
            go_wp2_with (first
              | (go_at_call 11; refine cF.mono ?_; rintro e W1 ⟨rfl, hb⟩; clear cF
                 have P1 : Hid (PSt (w.alloc (.cells #[.int .i64 r.freq, .int .i64 r.intv, .int .i64 r.cnt, .bool r.has, .int .i64 r.unt.secs, .bool r.unt.utc, .bool r.unt.date, .slice a1 r.mon.length c1, .slice a2 r.md.length c2, .slice a3 r.dys.length c3, .slice a4 r.pos.length c4, .int .i64 r.wk] 27)) W1 (.slice none 0 0) []) := Lib.hid ⟨hb, World.ownsRow_nil _ _ _ _, by simp⟩
                 clear hb
                 have t0 : W1.cell? ⟨w.heap.size, 0, none⟩ = some (.int .i64 r.freq) := CELL.out W1 P1.out.bel 0 _ rfl
                 have t1 : W1.cell? ⟨w.heap.size, 1, none⟩ = some (.int .i64 r.intv) := CELL.out W1 P1.out.bel 1 _ rfl
                 have t2 : W1.cell? ⟨w.heap.size, 2, none⟩ = some (.int .i64 0) := (CELL.out W1 P1.out.bel 2 (.int .i64 r.cnt) rfl).trans (by rw [E2.out])
                 have t3 : W1.cell? ⟨w.heap.size, 3, none⟩ = some (.bool false) := (CELL.out W1 P1.out.bel 3 (.bool r.has) rfl).trans (by rw [HH.out])
                 have t4 : W1.cell? ⟨w.heap.size, 4, none⟩ = some (.int .i64 r.unt.secs) := CELL.out W1 P1.out.bel 4 _ rfl
                 have t5 : W1.cell? ⟨w.heap.size, 5, none⟩ = some (.bool r.unt.utc) := CELL.out W1 P1.out.bel 5 _ rfl
                 have t6 : W1.cell? ⟨w.heap.size, 6, none⟩ = some (.bool r.unt.date) := CELL.out W1 P1.out.bel 6 _ rfl
                 have t7 : W1.cell? ⟨w.heap.size, 7, none⟩ = some (.slice a1 r.mon.length c1) := CELL.out W1 P1.out.bel 7 _ rfl
                 have t8 : W1.cell? ⟨w.heap.size, 8, none⟩ = some (.slice a2 r.md.length c2) := CELL.out W1 P1.out.bel 8 _ rfl
                 have t9 : W1.cell? ⟨w.heap.size, 9, none⟩ = some (.slice a3 r.dys.length c3) := CELL.out W1 P1.out.bel 9 _ rfl
                 have t10 : W1.cell? ⟨w.heap.size, 10, none⟩ = some (.slice a4 r.pos.length c4) := CELL.out W1 P1.out.bel 10 _ rfl
                 have t11 : W1.cell? ⟨w.heap.size, 11, none⟩ = some (.int .i64 0) := (CELL.out W1 P1.out.bel 11 (.int .i64 r.wk) rfl).trans (by rw [E8.out]))
              | (go_at_call 34; ((with_reducible refine (prn0 r hF w W1 (.slice none 0 0) _ _ HV.out (BW.out W1 P1.out.bel) P1.out.bel.size (by have := P1.out.len; omega) P1.out.own).mono ?_)); rintro e W2 ⟨x2, rfl, ho, hb⟩
                 have P2 : Hid (PSt (w.alloc (.cells #[.int .i64 r.freq, .int .i64 r.intv, .int .i64 r.cnt, .bool r.has, .int .i64 r.unt.secs, .bool r.unt.utc, .bool r.unt.date, .slice a1 r.mon.length c1, .slice a2 r.md.length c2, .slice a3 r.dys.length c3, .slice a4 r.pos.length c4, .int .i64 r.wk] 27)) W2 x2 ([] ++ optK r 0)) := Lib.hid ⟨P1.out.bel.trans ((((Below.refl _ W1).alloc (Nat.le_refl _) _).mono P1.out.bel.size).trans hb), ho, by have := optK_len r 0; have := optK_len r 1; have := optK_len r 2; have := optK_len r 3; have := optK_len r 4; have := optK_len r 5; have := optK_len r 6; have := optK_len r 7; have := optK_len r 8; simp only [List.length_append, List.length_nil]; omega⟩
                 clear hb ho
                 clear t0 t1 t2 t3 t4 t5 t6 t7 t8 t9 t10 t11
                 have t0 : W2.cell? ⟨w.heap.size, 0, none⟩ = some (.int .i64 r.freq) := CELL.out W2 P2.out.bel 0 _ rfl
                 have t1 : W2.cell? ⟨w.heap.size, 1, none⟩ = some (.int .i64 r.intv) := CELL.out W2 P2.out.bel 1 _ rfl
                 have t2 : W2.cell? ⟨w.heap.size, 2, none⟩ = some (.int .i64 0) := (CELL.out W2 P2.out.bel 2 (.int .i64 r.cnt) rfl).trans (by rw [E2.out])
                 have t3 : W2.cell? ⟨w.heap.size, 3, none⟩ = some (.bool false) := (CELL.out W2 P2.out.bel 3 (.bool r.has) rfl).trans (by rw [HH.out])
                 have t4 : W2.cell? ⟨w.heap.size, 4, none⟩ = some (.int .i64 r.unt.secs) := CELL.out W2 P2.out.bel 4 _ rfl
                 have t5 : W2.cell? ⟨w.heap.size, 5, none⟩ = some (.bool r.unt.utc) := CELL.out W2 P2.out.bel 5 _ rfl
                 have t6 : W2.cell? ⟨w.heap.size, 6, none⟩ = some (.bool r.unt.date) := CELL.out W2 P2.out.bel 6 _ rfl
                 have t7 : W2.cell? ⟨w.heap.size, 7, none⟩ = some (.slice a1 r.mon.length c1) := CELL.out W2 P2.out.bel 7 _ rfl
                 have t8 : W2.cell? ⟨w.heap.size, 8, none⟩ = some (.slice a2 r.md.length c2) := CELL.out W2 P2.out.bel 8 _ rfl
                 have t9 : W2.cell? ⟨w.heap.size, 9, none⟩ = some (.slice a3 r.dys.length c3) := CELL.out W2 P2.out.bel 9 _ rfl
                 have t10 : W2.cell? ⟨w.heap.size, 10, none⟩ = some (.slice a4 r.pos.length c4) := CELL.out W2 P2.out.bel 10 _ rfl
                 have t11 : W2.cell? ⟨w.heap.size, 11, none⟩ = some (.int .i64 0) := (CELL.out W2 P2.out.bel 11 (.int .i64 r.wk) rfl).trans (by rw [E8.out]))
              | (go_at_call 34; ((with_reducible refine (prn1 r hF HX1.out w W2 x2 _ _ HV.out (BW.out W2 P2.out.bel) P2.out.bel.size (by have := P2.out.len; omega) P2.out.own).mono ?_)); rintro e W3 ⟨x3, rfl, ho, hb⟩
                 have P3 : Hid (PSt (w.alloc (.cells #[.int .i64 r.freq, .int .i64 r.intv, .int .i64 r.cnt, .bool r.has, .int .i64 r.unt.secs, .bool r.unt.utc, .bool r.unt.date, .slice a1 r.mon.length c1, .slice a2 r.md.length c2, .slice a3 r.dys.length c3, .slice a4 r.pos.length c4, .int .i64 r.wk] 27)) W3 x3 (([] ++ optK r 0) ++ optK r 1)) := Lib.hid ⟨P2.out.bel.trans ((((Below.refl _ W2).alloc (Nat.le_refl _) _).mono P2.out.bel.size).trans hb), ho, by have := optK_len r 0; have := optK_len r 1; have := optK_len r 2; have := optK_len r 3; have := optK_len r 4; have := optK_len r 5; have := optK_len r 6; have := optK_len r 7; have := optK_len r 8; simp only [List.length_append, List.length_nil]; omega⟩
                 clear hb ho
                 clear t0 t1 t2 t3 t4 t5 t6 t7 t8 t9 t10 t11
                 have t0 : W3.cell? ⟨w.heap.size, 0, none⟩ = some (.int .i64 r.freq) := CELL.out W3 P3.out.bel 0 _ rfl
                 have t1 : W3.cell? ⟨w.heap.size, 1, none⟩ = some (.int .i64 r.intv) := CELL.out W3 P3.out.bel 1 _ rfl
                 have t2 : W3.cell? ⟨w.heap.size, 2, none⟩ = some (.int .i64 0) := (CELL.out W3 P3.out.bel 2 (.int .i64 r.cnt) rfl).trans (by rw [E2.out])
                 have t3 : W3.cell? ⟨w.heap.size, 3, none⟩ = some (.bool false) := (CELL.out W3 P3.out.bel 3 (.bool r.has) rfl).trans (by rw [HH.out])
                 have t4 : W3.cell? ⟨w.heap.size, 4, none⟩ = some (.int .i64 r.unt.secs) := CELL.out W3 P3.out.bel 4 _ rfl
                 have t5 : W3.cell? ⟨w.heap.size, 5, none⟩ = some (.bool r.unt.utc) := CELL.out W3 P3.out.bel 5 _ rfl
                 have t6 : W3.cell? ⟨w.heap.size, 6, none⟩ = some (.bool r.unt.date) := CELL.out W3 P3.out.bel 6 _ rfl
                 have t7 : W3.cell? ⟨w.heap.size, 7, none⟩ = some (.slice a1 r.mon.length c1) := CELL.out W3 P3.out.bel 7 _ rfl
                 have t8 : W3.cell? ⟨w.heap.size, 8, none⟩ = some (.slice a2 r.md.length c2) := CELL.out W3 P3.out.bel 8 _ rfl
                 have t9 : W3.cell? ⟨w.heap.size, 9, none⟩ = some (.slice a3 r.dys.length c3) := CELL.out W3 P3.out.bel 9 _ rfl
                 have t10 : W3.cell? ⟨w.heap.size, 10, none⟩ = some (.slice a4 r.pos.length c4) := CELL.out W3 P3.out.bel 10 _ rfl
                 have t11 : W3.cell? ⟨w.heap.size, 11, none⟩ = some (.int .i64 0) := (CELL.out W3 P3.out.bel 11 (.int .i64 r.wk) rfl).trans (by rw [E8.out]))
              | (go_at_call 34; ((with_reducible refine (prn4 r hF w W3 x3 (.slice a1 r.mon.length c1) _ _ HV.out (BW.out W3 P3.out.bel) P3.out.bel.size (by have := P3.out.len; omega) P3.out.own (HS.out.s1.step (BW.out W3 P3.out.bel))).mono ?_)); rintro e W4 ⟨x4, rfl, ho, hb⟩
                 have P4 : Hid (PSt (w.alloc (.cells #[.int .i64 r.freq, .int .i64 r.intv, .int .i64 r.cnt, .bool r.has, .int .i64 r.unt.secs, .bool r.unt.utc, .bool r.unt.date, .slice a1 r.mon.length c1, .slice a2 r.md.length c2, .slice a3 r.dys.length c3, .slice a4 r.pos.length c4, .int .i64 r.wk] 27)) W4 x4 ((([] ++ optK r 0) ++ optK r 1) ++ optK r 4)) := Lib.hid ⟨P3.out.bel.trans hb, ho, by have := optK_len r 0; have := optK_len r 1; have := optK_len r 2; have := optK_len r 3; have := optK_len r 4; have := optK_len r 5; have := optK_len r 6; have := optK_len r 7; have := optK_len r 8; simp only [List.length_append, List.length_nil]; omega⟩
                 clear hb ho
                 clear t0 t1 t2 t3 t4 t5 t6 t7 t8 t9 t10 t11
                 have t0 : W4.cell? ⟨w.heap.size, 0, none⟩ = some (.int .i64 r.freq) := CELL.out W4 P4.out.bel 0 _ rfl
                 have t1 : W4.cell? ⟨w.heap.size, 1, none⟩ = some (.int .i64 r.intv) := CELL.out W4 P4.out.bel 1 _ rfl
                 have t2 : W4.cell? ⟨w.heap.size, 2, none⟩ = some (.int .i64 0) := (CELL.out W4 P4.out.bel 2 (.int .i64 r.cnt) rfl).trans (by rw [E2.out])
                 have t3 : W4.cell? ⟨w.heap.size, 3, none⟩ = some (.bool false) := (CELL.out W4 P4.out.bel 3 (.bool r.has) rfl).trans (by rw [HH.out])
                 have t4 : W4.cell? ⟨w.heap.size, 4, none⟩ = some (.int .i64 r.unt.secs) := CELL.out W4 P4.out.bel 4 _ rfl
                 have t5 : W4.cell? ⟨w.heap.size, 5, none⟩ = some (.bool r.unt.utc) := CELL.out W4 P4.out.bel 5 _ rfl
                 have t6 : W4.cell? ⟨w.heap.size, 6, none⟩ = some (.bool r.unt.date) := CELL.out W4 P4.out.bel 6 _ rfl
                 have t7 : W4.cell? ⟨w.heap.size, 7, none⟩ = some (.slice a1 r.mon.length c1) := CELL.out W4 P4.out.bel 7 _ rfl
                 have t8 : W4.cell? ⟨w.heap.size, 8, none⟩ = some (.slice a2 r.md.length c2) := CELL.out W4 P4.out.bel 8 _ rfl
                 have t9 : W4.cell? ⟨w.heap.size, 9, none⟩ = some (.slice a3 r.dys.length c3) := CELL.out W4 P4.out.bel 9 _ rfl
                 have t10 : W4.cell? ⟨w.heap.size, 10, none⟩ = some (.slice a4 r.pos.length c4) := CELL.out W4 P4.out.bel 10 _ rfl
                 have t11 : W4.cell? ⟨w.heap.size, 11, none⟩ = some (.int .i64 0) := (CELL.out W4 P4.out.bel 11 (.int .i64 r.wk) rfl).trans (by rw [E8.out]))
              | (go_at_call 34; ((with_reducible refine (prn5 r hF w W4 x4 (.slice a2 r.md.length c2) _ _ HV.out (BW.out W4 P4.out.bel) P4.out.bel.size (by have := P4.out.len; omega) P4.out.own (HS.out.s2.step (BW.out W4 P4.out.bel))).mono ?_)); rintro e W5 ⟨x5, rfl, ho, hb⟩
                 have P5 : Hid (PSt (w.alloc (.cells #[.int .i64 r.freq, .int .i64 r.intv, .int .i64 r.cnt, .bool r.has, .int .i64 r.unt.secs, .bool r.unt.utc, .bool r.unt.date, .slice a1 r.mon.length c1, .slice a2 r.md.length c2, .slice a3 r.dys.length c3, .slice a4 r.pos.length c4, .int .i64 r.wk] 27)) W5 x5 (((([] ++ optK r 0) ++ optK r 1) ++ optK r 4) ++ optK r 5)) := Lib.hid ⟨P4.out.bel.trans hb, ho, by have := optK_len r 0; have := optK_len r 1; have := optK_len r 2; have := optK_len r 3; have := optK_len r 4; have := optK_len r 5; have := optK_len r 6; have := optK_len r 7; have := optK_len r 8; simp only [List.length_append, List.length_nil]; omega⟩
                 clear hb ho
                 clear t0 t1 t2 t3 t4 t5 t6 t7 t8 t9 t10 t11
                 have t0 : W5.cell? ⟨w.heap.size, 0, none⟩ = some (.int .i64 r.freq) := CELL.out W5 P5.out.bel 0 _ rfl
                 have t1 : W5.cell? ⟨w.heap.size, 1, none⟩ = some (.int .i64 r.intv) := CELL.out W5 P5.out.bel 1 _ rfl
                 have t2 : W5.cell? ⟨w.heap.size, 2, none⟩ = some (.int .i64 0) := (CELL.out W5 P5.out.bel 2 (.int .i64 r.cnt) rfl).trans (by rw [E2.out])
                 have t3 : W5.cell? ⟨w.heap.size, 3, none⟩ = some (.bool false) := (CELL.out W5 P5.out.bel 3 (.bool r.has) rfl).trans (by rw [HH.out])
                 have t4 : W5.cell? ⟨w.heap.size, 4, none⟩ = some (.int .i64 r.unt.secs) := CELL.out W5 P5.out.bel 4 _ rfl
                 have t5 : W5.cell? ⟨w.heap.size, 5, none⟩ = some (.bool r.unt.utc) := CELL.out W5 P5.out.bel 5 _ rfl
                 have t6 : W5.cell? ⟨w.heap.size, 6, none⟩ = some (.bool r.unt.date) := CELL.out W5 P5.out.bel 6 _ rfl
                 have t7 : W5.cell? ⟨w.heap.size, 7, none⟩ = some (.slice a1 r.mon.length c1) := CELL.out W5 P5.out.bel 7 _ rfl
                 have t8 : W5.cell? ⟨w.heap.size, 8, none⟩ = some (.slice a2 r.md.length c2) := CELL.out W5 P5.out.bel 8 _ rfl
                 have t9 : W5.cell? ⟨w.heap.size, 9, none⟩ = some (.slice a3 r.dys.length c3) := CELL.out W5 P5.out.bel 9 _ rfl
                 have t10 : W5.cell? ⟨w.heap.size, 10, none⟩ = some (.slice a4 r.pos.length c4) := CELL.out W5 P5.out.bel 10 _ rfl
                 have t11 : W5.cell? ⟨w.heap.size, 11, none⟩ = some (.int .i64 0) := (CELL.out W5 P5.out.bel 11 (.int .i64 r.wk) rfl).trans (by rw [E8.out]))
              | (go_at_call 39; ((with_reducible refine (prn6 r hF w W5 x5 (.slice a3 r.dys.length c3) _ _ HV.out (BW.out W5 P5.out.bel) P5.out.bel.size (by have := P5.out.len; omega) P5.out.own (HS.out.s3.step (BW.out W5 P5.out.bel))).mono ?_)); rintro e W6 ⟨x6, rfl, ho, hb⟩
                 have P6 : Hid (PSt (w.alloc (.cells #[.int .i64 r.freq, .int .i64 r.intv, .int .i64 r.cnt, .bool r.has, .int .i64 r.unt.secs, .bool r.unt.utc, .bool r.unt.date, .slice a1 r.mon.length c1, .slice a2 r.md.length c2, .slice a3 r.dys.length c3, .slice a4 r.pos.length c4, .int .i64 r.wk] 27)) W6 x6 ((((([] ++ optK r 0) ++ optK r 1) ++ optK r 4) ++ optK r 5) ++ optK r 6)) := Lib.hid ⟨P5.out.bel.trans hb, ho, by have := optK_len r 0; have := optK_len r 1; have := optK_len r 2; have := optK_len r 3; have := optK_len r 4; have := optK_len r 5; have := optK_len r 6; have := optK_len r 7; have := optK_len r 8; simp only [List.length_append, List.length_nil]; omega⟩
                 clear hb ho
                 clear t0 t1 t2 t3 t4 t5 t6 t7 t8 t9 t10 t11
                 have t0 : W6.cell? ⟨w.heap.size, 0, none⟩ = some (.int .i64 r.freq) := CELL.out W6 P6.out.bel 0 _ rfl
                 have t1 : W6.cell? ⟨w.heap.size, 1, none⟩ = some (.int .i64 r.intv) := CELL.out W6 P6.out.bel 1 _ rfl
                 have t2 : W6.cell? ⟨w.heap.size, 2, none⟩ = some (.int .i64 0) := (CELL.out W6 P6.out.bel 2 (.int .i64 r.cnt) rfl).trans (by rw [E2.out])
                 have t3 : W6.cell? ⟨w.heap.size, 3, none⟩ = some (.bool false) := (CELL.out W6 P6.out.bel 3 (.bool r.has) rfl).trans (by rw [HH.out])
                 have t4 : W6.cell? ⟨w.heap.size, 4, none⟩ = some (.int .i64 r.unt.secs) := CELL.out W6 P6.out.bel 4 _ rfl
                 have t5 : W6.cell? ⟨w.heap.size, 5, none⟩ = some (.bool r.unt.utc) := CELL.out W6 P6.out.bel 5 _ rfl
                 have t6 : W6.cell? ⟨w.heap.size, 6, none⟩ = some (.bool r.unt.date) := CELL.out W6 P6.out.bel 6 _ rfl
                 have t7 : W6.cell? ⟨w.heap.size, 7, none⟩ = some (.slice a1 r.mon.length c1) := CELL.out W6 P6.out.bel 7 _ rfl
                 have t8 : W6.cell? ⟨w.heap.size, 8, none⟩ = some (.slice a2 r.md.length c2) := CELL.out W6 P6.out.bel 8 _ rfl
                 have t9 : W6.cell? ⟨w.heap.size, 9, none⟩ = some (.slice a3 r.dys.length c3) := CELL.out W6 P6.out.bel 9 _ rfl
                 have t10 : W6.cell? ⟨w.heap.size, 10, none⟩ = some (.slice a4 r.pos.length c4) := CELL.out W6 P6.out.bel 10 _ rfl
                 have t11 : W6.cell? ⟨w.heap.size, 11, none⟩ = some (.int .i64 0) := (CELL.out W6 P6.out.bel 11 (.int .i64 r.wk) rfl).trans (by rw [E8.out]))
              | (go_at_call 34; ((with_reducible refine (prn7 r hF w W6 x6 (.slice a4 r.pos.length c4) _ _ HV.out (BW.out W6 P6.out.bel) P6.out.bel.size (by have := P6.out.len; omega) P6.out.own (HS.out.s4.step (BW.out W6 P6.out.bel))).mono ?_)); rintro e W7 ⟨x7, rfl, ho, hb⟩
                 have P7 : Hid (PSt (w.alloc (.cells #[.int .i64 r.freq, .int .i64 r.intv, .int .i64 r.cnt, .bool r.has, .int .i64 r.unt.secs, .bool r.unt.utc, .bool r.unt.date, .slice a1 r.mon.length c1, .slice a2 r.md.length c2, .slice a3 r.dys.length c3, .slice a4 r.pos.length c4, .int .i64 r.wk] 27)) W7 x7 (((((([] ++ optK r 0) ++ optK r 1) ++ optK r 4) ++ optK r 5) ++ optK r 6) ++ optK r 7)) := Lib.hid ⟨P6.out.bel.trans hb, ho, by have := optK_len r 0; have := optK_len r 1; have := optK_len r 2; have := optK_len r 3; have := optK_len r 4; have := optK_len r 5; have := optK_len r 6; have := optK_len r 7; have := optK_len r 8; simp only [List.length_append, List.length_nil]; omega⟩
                 clear hb ho
                 clear t0 t1 t2 t3 t4 t5 t6 t7 t8 t9 t10 t11
                 have t0 : W7.cell? ⟨w.heap.size, 0, none⟩ = some (.int .i64 r.freq) := CELL.out W7 P7.out.bel 0 _ rfl
                 have t1 : W7.cell? ⟨w.heap.size, 1, none⟩ = some (.int .i64 r.intv) := CELL.out W7 P7.out.bel 1 _ rfl
                 have t2 : W7.cell? ⟨w.heap.size, 2, none⟩ = some (.int .i64 0) := (CELL.out W7 P7.out.bel 2 (.int .i64 r.cnt) rfl).trans (by rw [E2.out])
                 have t3 : W7.cell? ⟨w.heap.size, 3, none⟩ = some (.bool false) := (CELL.out W7 P7.out.bel 3 (.bool r.has) rfl).trans (by rw [HH.out])
                 have t4 : W7.cell? ⟨w.heap.size, 4, none⟩ = some (.int .i64 r.unt.secs) := CELL.out W7 P7.out.bel 4 _ rfl
                 have t5 : W7.cell? ⟨w.heap.size, 5, none⟩ = some (.bool r.unt.utc) := CELL.out W7 P7.out.bel 5 _ rfl
                 have t6 : W7.cell? ⟨w.heap.size, 6, none⟩ = some (.bool r.unt.date) := CELL.out W7 P7.out.bel 6 _ rfl
                 have t7 : W7.cell? ⟨w.heap.size, 7, none⟩ = some (.slice a1 r.mon.length c1) := CELL.out W7 P7.out.bel 7 _ rfl
                 have t8 : W7.cell? ⟨w.heap.size, 8, none⟩ = some (.slice a2 r.md.length c2) := CELL.out W7 P7.out.bel 8 _ rfl
                 have t9 : W7.cell? ⟨w.heap.size, 9, none⟩ = some (.slice a3 r.dys.length c3) := CELL.out W7 P7.out.bel 9 _ rfl
                 have t10 : W7.cell? ⟨w.heap.size, 10, none⟩ = some (.slice a4 r.pos.length c4) := CELL.out W7 P7.out.bel 10 _ rfl
                 have t11 : W7.cell? ⟨w.heap.size, 11, none⟩ = some (.int .i64 0) := (CELL.out W7 P7.out.bel 11 (.int .i64 r.wk) rfl).trans (by rw [E8.out]))
              | (go_at_call 42; refine (joinP P7.out (by rw [← HPS.out]; exact partsV_ne r) (by rw [← HPS.out]; exact parts_max hF)).mono ?_; rintro e W9 ⟨rfl, hb⟩; have HB9 := Lib.hid (BW.out _ (P7.out.bel.trans (hb.mono P7.out.bel.size))); clear hb))
            go_ret
            exact ⟨by rw [HP.out, HPS.out]; first | rfl | simp, HB9.out⟩
          · have hx8 := no8
            rw [no8] at b8
            clear no8
            have HPS : Hid (partsV r = ((((((([] ++ optK r 0) ++ optK r 1) ++ optK r 4) ++ optK r 5) ++ optK r 6) ++ optK r 7) ++ optK r 8)) := Lib.hid (by
              rw [partsV_is]
              have e2 : optK r 2 = [] := by unfold optK; rw [if_neg (by rw [no2]; decide)]
              have e3 : optK r 3 = [] := by unfold optK; rw [if_neg (by rw [no3]; decide)]
              rw [e2, e3]
              simp)
            have HX1 := Lib.hid hx1
            have HX8 := Lib.hid hx8
            have HU := Lib.hid hu
            clear hu no2 no3 hx1 hx8
            go_enter Tryz.func13, Tryz.ntmps13
            go_wp2_with (first
              | (go_at_call 11; refine cF.mono ?_; rintro e W1 ⟨rfl, hb⟩; clear cF
                 have P1 : Hid (PSt (w.alloc (.cells #[.int .i64 r.freq, .int .i64 r.intv, .int .i64 r.cnt, .bool r.has, .int .i64 r.unt.secs, .bool r.unt.utc, .bool r.unt.date, .slice a1 r.mon.length c1, .slice a2 r.md.length c2, .slice a3 r.dys.length c3, .slice a4 r.pos.length c4, .int .i64 r.wk] 27)) W1 (.slice none 0 0) []) := Lib.hid ⟨hb, World.ownsRow_nil _ _ _ _, by simp⟩
                 clear hb
                 have t0 : W1.cell? ⟨w.heap.size, 0, none⟩ = some (.int .i64 r.freq) := CELL.out W1 P1.out.bel 0 _ rfl
                 have t1 : W1.cell? ⟨w.heap.size, 1, none⟩ = some (.int .i64 r.intv) := CELL.out W1 P1.out.bel 1 _ rfl
                 have t2 : W1.cell? ⟨w.heap.size, 2, none⟩ = some (.int .i64 0) := (CELL.out W1 P1.out.bel 2 (.int .i64 r.cnt) rfl).trans (by rw [E2.out])
                 have t3 : W1.cell? ⟨w.heap.size, 3, none⟩ = some (.bool false) := (CELL.out W1 P1.out.bel 3 (.bool r.has) rfl).trans (by rw [HH.out])
                 have t4 : W1.cell? ⟨w.heap.size, 4, none⟩ = some (.int .i64 r.unt.secs) := CELL.out W1 P1.out.bel 4 _ rfl
                 have t5 : W1.cell? ⟨w.heap.size, 5, none⟩ = some (.bool r.unt.utc) := CELL.out W1 P1.out.bel 5 _ rfl
                 have t6 : W1.cell? ⟨w.heap.size, 6, none⟩ = some (.bool r.unt.date) := CELL.out W1 P1.out.bel 6 _ rfl
                 have t7 : W1.cell? ⟨w.heap.size, 7, none⟩ = some (.slice a1 r.mon.length c1) := CELL.out W1 P1.out.bel 7 _ rfl
                 have t8 : W1.cell? ⟨w.heap.size, 8, none⟩ = some (.slice a2 r.md.length c2) := CELL.out W1 P1.out.bel 8 _ rfl
                 have t9 : W1.cell? ⟨w.heap.size, 9, none⟩ = some (.slice a3 r.dys.length c3) := CELL.out W1 P1.out.bel 9 _ rfl
                 have t10 : W1.cell? ⟨w.heap.size, 10, none⟩ = some (.slice a4 r.pos.length c4) := CELL.out W1 P1.out.bel 10 _ rfl
                 have t11 : W1.cell? ⟨w.heap.size, 11, none⟩ = some (.int .i64 r.wk) := CELL.out W1 P1.out.bel 11 _ rfl)
              | (go_at_call 34; ((with_reducible refine (prn0 r hF w W1 (.slice none 0 0) _ _ HV.out (BW.out W1 P1.out.bel) P1.out.bel.size (by have := P1.out.len; omega) P1.out.own).mono ?_)); rintro e W2 ⟨x2, rfl, ho, hb⟩
                 have P2 : Hid (PSt (w.alloc (.cells #[.int .i64 r.freq, .int .i64 r.intv, .int .i64 r.cnt, .bool r.has, .int .i64 r.unt.secs, .bool r.unt.utc, .bool r.unt.date, .slice a1 r.mon.length c1, .slice a2 r.md.length c2, .slice a3 r.dys.length c3, .slice a4 r.pos.length c4, .int .i64 r.wk] 27)) W2 x2 ([] ++ optK r 0)) := Lib.hid ⟨P1.out.bel.trans ((((Below.refl _ W1).alloc (Nat.le_refl _) _).mono P1.out.bel.size).trans hb), ho, by have := optK_len r 0; have := optK_len r 1; have := optK_len r 2; have := optK_len r 3; have := optK_len r 4; have := optK_len r 5; have := optK_len r 6; have := optK_len r 7; have := optK_len r 8; simp only [List.length_append, List.length_nil]; omega⟩
                 clear hb ho
                 clear t0 t1 t2 t3 t4 t5 t6 t7 t8 t9 t10 t11
                 have t0 : W2.cell? ⟨w.heap.size, 0, none⟩ = some (.int .i64 r.freq) := CELL.out W2 P2.out.bel 0 _ rfl
                 have t1 : W2.cell? ⟨w.heap.size, 1, none⟩ = some (.int .i64 r.intv) := CELL.out W2 P2.out.bel 1 _ rfl
                 have t2 : W2.cell? ⟨w.heap.size, 2, none⟩ = some (.int .i64 0) := (CELL.out W2 P2.out.bel 2 (.int .i64 r.cnt) rfl).trans (by rw [E2.out])
                 have t3 : W2.cell? ⟨w.heap.size, 3, none⟩ = some (.bool false) := (CELL.out W2 P2.out.bel 3 (.bool r.has) rfl).trans (by rw [HH.out])
                 have t4 : W2.cell? ⟨w.heap.size, 4, none⟩ = some (.int .i64 r.unt.secs) := CELL.out W2 P2.out.bel 4 _ rfl
                 have t5 : W2.cell? ⟨w.heap.size, 5, none⟩ = some (.bool r.unt.utc) := CELL.out W2 P2.out.bel 5 _ rfl
                 have t6 : W2.cell? ⟨w.heap.size, 6, none⟩ = some (.bool r.unt.date) := CELL.out W2 P2.out.bel 6 _ rfl
                 have t7 : W2.cell? ⟨w.heap.size, 7, none⟩ = some (.slice a1 r.mon.length c1) := CELL.out W2 P2.out.bel 7 _ rfl
                 have t8 : W2.cell? ⟨w.heap.size, 8, none⟩ = some (.slice a2 r.md.length c2) := CELL.out W2 P2.out.bel 8 _ rfl
                 have t9 : W2.cell? ⟨w.heap.size, 9, none⟩ = some (.slice a3 r.dys.length c3) := CELL.out W2 P2.out.bel 9 _ rfl
                 have t10 : W2.cell? ⟨w.heap.size, 10, none⟩ = some (.slice a4 r.pos.length c4) := CELL.out W2 P2.out.bel 10 _ rfl
                 have t11 : W2.cell? ⟨w.heap.size, 11, none⟩ = some (.int .i64 r.wk) := CELL.out W2 P2.out.bel 11 _ rfl)
              | (go_at_call 34; ((with_reducible refine (prn1 r hF HX1.out w W2 x2 _ _ HV.out (BW.out W2 P2.out.bel) P2.out.bel.size (by have := P2.out.len; omega) P2.out.own).mono ?_)); rintro e W3 ⟨x3, rfl, ho, hb⟩
                 have P3 : Hid (PSt (w.alloc (.cells #[.int .i64 r.freq, .int .i64 r.intv, .int .i64 r.cnt, .bool r.has, .int .i64 r.unt.secs, .bool r.unt.utc, .bool r.unt.date, .slice a1 r.mon.length c1, .slice a2 r.md.length c2, .slice a3 r.dys.length c3, .slice a4 r.pos.length c4, .int .i64 r.wk] 27)) W3 x3 (([] ++ optK r 0) ++ optK r 1)) := Lib.hid ⟨P2.out.bel.trans ((((Below.refl _ W2).alloc (Nat.le_refl _) _).mono P2.out.bel.size).trans hb), ho, by have := optK_len r 0; have := optK_len r 1; have := optK_len r 2; have := optK_len r 3; have := optK_len r 4; have := optK_len r 5; have := optK_len r 6; have := optK_len r 7; have := optK_len r 8; simp only [List.length_append, List.length_nil]; omega⟩
                 clear hb ho
                 clear t0 t1 t2 t3 t4 t5 t6 t7 t8 t9 t10 t11
                 have t0 : W3.cell? ⟨w.heap.size, 0, none⟩ = some (.int .i64 r.freq) := CELL.out W3 P3.out.bel 0 _ rfl
                 have t1 : W3.cell? ⟨w.heap.size, 1, none⟩ = some (.int .i64 r.intv) := CELL.out W3 P3.out.bel 1 _ rfl
                 have t2 : W3.cell? ⟨w.heap.size, 2, none⟩ = some (.int .i64 0) := (CELL.out W3 P3.out.bel 2 (.int .i64 r.cnt) rfl).trans (by rw [E2.out])
                 have t3 : W3.cell? ⟨w.heap.size, 3, none⟩ = some (.bool false) := (CELL.out W3 P3.out.bel 3 (.bool r.has) rfl).trans (by rw [HH.out])
                 have t4 : W3.cell? ⟨w.heap.size, 4, none⟩ = some (.int .i64 r.unt.secs) := CELL.out W3 P3.out.bel 4 _ rfl
                 have t5 : W3.cell? ⟨w.heap.size, 5, none⟩ = some (.bool r.unt.utc) := CELL.out W3 P3.out.bel 5 _ rfl
                 have t6 : W3.cell? ⟨w.heap.size, 6, none⟩ = some (.bool r.unt.date) := CELL.out W3 P3.out.bel 6 _ rfl
                 have t7 : W3.cell? ⟨w.heap.size, 7, none⟩ = some (.slice a1 r.mon.length c1) := CELL.out W3 P3.out.bel 7 _ rfl
                 have t8 : W3.cell? ⟨w.heap.size, 8, none⟩ = some (.slice a2 r.md.length c2) := CELL.out W3 P3.out.bel 8 _ rfl
                 have t9 : W3.cell? ⟨w.heap.size, 9, none⟩ = some (.slice a3 r.dys.length c3) := CELL.out W3 P3.out.bel 9 _ rfl
                 have t10 : W3.cell? ⟨w.heap.size, 10, none⟩ = some (.slice a4 r.pos.length c4) := CELL.out W3 P3.out.bel 10 _ rfl
                 have t11 : W3.cell? ⟨w.heap.size, 11, none⟩ = some (.int .i64 r.wk) := CELL.out W3 P3.out.bel 11 _ rfl)
              | (go_at_call 34; ((with_reducible refine (prn4 r hF w W3 x3 (.slice a1 r.mon.length c1) _ _ HV.out (BW.out W3 P3.out.bel) P3.out.bel.size (by have := P3.out.len; omega) P3.out.own (HS.out.s1.step (BW.out W3 P3.out.bel))).mono ?_)); rintro e W4 ⟨x4, rfl, ho, hb⟩
                 have P4 : Hid (PSt (w.alloc (.cells #[.int .i64 r.freq, .int .i64 r.intv, .int .i64 r.cnt, .bool r.has, .int .i64 r.unt.secs, .bool r.unt.utc, .bool r.unt.date, .slice a1 r.mon.length c1, .slice a2 r.md.length c2, .slice a3 r.dys.length c3, .slice a4 r.pos.length c4, .int .i64 r.wk] 27)) W4 x4 ((([] ++ optK r 0) ++ optK r 1) ++ optK r 4)) := Lib.hid ⟨P3.out.bel.trans hb, ho, by have := optK_len r 0; have := optK_len r 1; have := optK_len r 2; have := optK_len r 3; have := optK_len r 4; have := optK_len r 5; have := optK_len r 6; have := optK_len r 7; have := optK_len r 8; simp only [List.length_append, List.length_nil]; omega⟩
                 clear hb ho
                 clear t0 t1 t2 t3 t4 t5 t6 t7 t8 t9 t10 t11
                 have t0 : W4.cell? ⟨w.heap.size, 0, none⟩ = some (.int .i64 r.freq) := CELL.out W4 P4.out.bel 0 _ rfl
                 have t1 : W4.cell? ⟨w.heap.size, 1, none⟩ = some (.int .i64 r.intv) := CELL.out W4 P4.out.bel 1 _ rfl
                 have t2 : W4.cell? ⟨w.heap.size, 2, none⟩ = some (.int .i64 0) := (CELL.out W4 P4.out.bel 2 (.int .i64 r.cnt) rfl).trans (by rw [E2.out])
                 have t3 : W4.cell? ⟨w.heap.size, 3, none⟩ = some (.bool false) := (CELL.out W4 P4.out.bel 3 (.bool r.has) rfl).trans (by rw [HH.out])
                 have t4 : W4.cell? ⟨w.heap.size, 4, none⟩ = some (.int .i64 r.unt.secs) := CELL.out W4 P4.out.bel 4 _ rfl
                 have t5 : W4.cell? ⟨w.heap.size, 5, none⟩ = some (.bool r.unt.utc) := CELL.out W4 P4.out.bel 5 _ rfl
                 have t6 : W4.cell? ⟨w.heap.size, 6, none⟩ = some (.bool r.unt.date) := CELL.out W4 P4.out.bel 6 _ rfl
                 have t7 : W4.cell? ⟨w.heap.size, 7, none⟩ = some (.slice a1 r.mon.length c1) := CELL.out W4 P4.out.bel 7 _ rfl
                 have t8 : W4.cell? ⟨w.heap.size, 8, none⟩ = some (.slice a2 r.md.length c2) := CELL.out W4 P4.out.bel 8 _ rfl
                 have t9 : W4.cell? ⟨w.heap.size, 9, none⟩ = some (.slice a3 r.dys.length c3) := CELL.out W4 P4.out.bel 9 _ rfl
                 have t10 : W4.cell? ⟨w.heap.size, 10, none⟩ = some (.slice a4 r.pos.length c4) := CELL.out W4 P4.out.bel 10 _ rfl
                 have t11 : W4.cell? ⟨w.heap.size, 11, none⟩ = some (.int .i64 r.wk) := CELL.out W4 P4.out.bel 11 _ rfl)
              | (go_at_call 34; ((with_reducible refine (prn5 r hF w W4 x4 (.slice a2 r.md.length c2) _ _ HV.out (BW.out W4 P4.out.bel) P4.out.bel.size (by have := P4.out.len; omega) P4.out.own (HS.out.s2.step (BW.out W4 P4.out.bel))).mono ?_)); rintro e W5 ⟨x5, rfl, ho, hb⟩
                 have P5 : Hid (PSt (w.alloc (.cells #[.int .i64 r.freq, .int .i64 r.intv, .int .i64 r.cnt, .bool r.has, .int .i64 r.unt.secs, .bool r.unt.utc, .bool r.unt.date, .slice a1 r.mon.length c1, .slice a2 r.md.length c2, .slice a3 r.dys.length c3, .slice a4 r.pos.length c4, .int .i64 r.wk] 27)) W5 x5 (((([] ++ optK r 0) ++ optK r 1) ++ optK r 4) ++ optK r 5)) := Lib.hid ⟨P4.out.bel.trans hb, ho, by have := optK_len r 0; have := optK_len r 1; have := optK_len r 2; have := optK_len r 3; have := optK_len r 4; have := optK_len r 5; have := optK_len r 6; have := optK_len r 7; have := optK_len r 8; simp only [List.length_append, List.length_nil]; omega⟩
                 clear hb ho
                 clear t0 t1 t2 t3 t4 t5 t6 t7 t8 t9 t10 t11
                 have t0 : W5.cell? ⟨w.heap.size, 0, none⟩ = some (.int .i64 r.freq) := CELL.out W5 P5.out.bel 0 _ rfl
                 have t1 : W5.cell? ⟨w.heap.size, 1, none⟩ = some (.int .i64 r.intv) := CELL.out W5 P5.out.bel 1 _ rfl
                 have t2 : W5.cell? ⟨w.heap.size, 2, none⟩ = some (.int .i64 0) := (CELL.out W5 P5.out.bel 2 (.int .i64 r.cnt) rfl).trans (by rw [E2.out])
                 have t3 : W5.cell? ⟨w.heap.size, 3, none⟩ = some (.bool false) := (CELL.out W5 P5.out.bel 3 (.bool r.has) rfl).trans (by rw [HH.out])
                 have t4 : W5.cell? ⟨w.heap.size, 4, none⟩ = some (.int .i64 r.unt.secs) := CELL.out W5 P5.out.bel 4 _ rfl
                 have t5 : W5.cell? ⟨w.heap.size, 5, none⟩ = some (.bool r.unt.utc) := CELL.out W5 P5.out.bel 5 _ rfl
                 have t6 : W5.cell? ⟨w.heap.size, 6, none⟩ = some (.bool r.unt.date) := CELL.out W5 P5.out.bel 6 _ rfl
                 have t7 : W5.cell? ⟨w.heap.size, 7, none⟩ = some (.slice a1 r.mon.length c1) := CELL.out W5 P5.out.bel 7 _ rfl
                 have t8 : W5.cell? ⟨w.heap.size, 8, none⟩ = some (.slice a2 r.md.length c2) := CELL.out W5 P5.out.bel 8 _ rfl
                 have t9 : W5.cell? ⟨w.heap.size, 9, none⟩ = some (.slice a3 r.dys.length c3) := CELL.out W5 P5.out.bel 9 _ rfl
                 have t10 : W5.cell? ⟨w.heap.size, 10, none⟩ = some (.slice a4 r.pos.length c4) := CELL.out W5 P5.out.bel 10 _ rfl
                 have t11 : W5.cell? ⟨w.heap.size, 11, none⟩ = some (.int .i64 r.wk) := CELL.out W5 P5.out.bel 11 _ rfl)
              | (go_at_call 39; ((with_reducible refine (prn6 r hF w W5 x5 (.slice a3 r.dys.length c3) _ _ HV.out (BW.out W5 P5.out.bel) P5.out.bel.size (by have := P5.out.len; omega) P5.out.own (HS.out.s3.step (BW.out W5 P5.out.bel))).mono ?_)); rintro e W6 ⟨x6, rfl, ho, hb⟩
                 have P6 : Hid (PSt (w.alloc (.cells #[.int .i64 r.freq, .int .i64 r.intv, .int .i64 r.cnt, .bool r.has, .int .i64 r.unt.secs, .bool r.unt.utc, .bool r.unt.date, .slice a1 r.mon.length c1, .slice a2 r.md.length c2, .slice a3 r.dys.length c3, .slice a4 r.pos.length c4, .int .i64 r.wk] 27)) W6 x6 ((((([] ++ optK r 0) ++ optK r 1) ++ optK r 4) ++ optK r 5) ++ optK r 6)) := Lib.hid ⟨P5.out.bel.trans hb, ho, by have := optK_len r 0; have := optK_len r 1; have := optK_len r 2; have := optK_len r 3; have := optK_len r 4; have := optK_len r 5; have := optK_len r 6; have := optK_len r 7; have := optK_len r 8; simp only [List.length_append, List.length_nil]; omega⟩
                 clear hb ho
                 clear t0 t1 t2 t3 t4 t5 t6 t7 t8 t9 t10 t11
                 have t0 : W6.cell? ⟨w.heap.size, 0, none⟩ = some (.int .i64 r.freq) := CELL.out W6 P6.out.bel 0 _ rfl
                 have t1 : W6.cell? ⟨w.heap.size, 1, none⟩ = some (.int .i64 r.intv) := CELL.out W6 P6.out.bel 1 _ rfl
                 have t2 : W6.cell? ⟨w.heap.size, 2, none⟩ = some (.int .i64 0) := (CELL.out W6 P6.out.bel 2 (.int .i64 r.cnt) rfl).trans (by rw [E2.out])
                 have t3 : W6.cell? ⟨w.heap.size, 3, none⟩ = some (.bool false) := (CELL.out W6 P6.out.bel 3 (.bool r.has) rfl).trans (by rw [HH.out])
                 have t4 : W6.cell? ⟨w.heap.size, 4, none⟩ = some (.int .i64 r.unt.secs) := CELL.out W6 P6.out.bel 4 _ rfl
                 have t5 : W6.cell? ⟨w.heap.size, 5, none⟩ = some (.bool r.unt.utc) := CELL.out W6 P6.out.bel 5 _ rfl
                 have t6 : W6.cell? ⟨w.heap.size, 6, none⟩ = some (.bool r.unt.date) := CELL.out W6 P6.out.bel 6 _ rfl
                 have t7 : W6.cell? ⟨w.heap.size, 7, none⟩ = some (.slice a1 r.mon.length c1) := CELL.out W6 P6.out.bel 7 _ rfl
                 have t8 : W6.cell? ⟨w.heap.size, 8, none⟩ = some (.slice a2 r.md.length c2) := CELL.out W6 P6.out.bel 8 _ rfl
                 have t9 : W6.cell? ⟨w.heap.size, 9, none⟩ = some (.slice a3 r.dys.length c3) := CELL.out W6 P6.out.bel 9 _ rfl
                 have t10 : W6.cell? ⟨w.heap.size, 10, none⟩ = some (.slice a4 r.pos.length c4) := CELL.out W6 P6.out.bel 10 _ rfl
                 have t11 : W6.cell? ⟨w.heap.size, 11, none⟩ = some (.int .i64 r.wk) := CELL.out W6 P6.out.bel 11 _ rfl)
              | (go_at_call 34; ((with_reducible refine (prn7 r hF w W6 x6 (.slice a4 r.pos.length c4) _ _ HV.out (BW.out W6 P6.out.bel) P6.out.bel.size (by have := P6.out.len; omega) P6.out.own (HS.out.s4.step (BW.out W6 P6.out.bel))).mono ?_)); rintro e W7 ⟨x7, rfl, ho, hb⟩
                 have P7 : Hid (PSt (w.alloc (.cells #[.int .i64 r.freq, .int .i64 r.intv, .int .i64 r.cnt, .bool r.has, .int .i64 r.unt.secs, .bool r.unt.utc, .bool r.unt.date, .slice a1 r.mon.length c1, .slice a2 r.md.length c2, .slice a3 r.dys.length c3, .slice a4 r.pos.length c4, .int .i64 r.wk] 27)) W7 x7 (((((([] ++ optK r 0) ++ optK r 1) ++ optK r 4) ++ optK r 5) ++ optK r 6) ++ optK r 7)) := Lib.hid ⟨P6.out.bel.trans hb, ho, by have := optK_len r 0; have := optK_len r 1; have := optK_len r 2; have := optK_len r 3; have := optK_len r 4; have := optK_len r 5; have := optK_len r 6; have := optK_len r 7; have := optK_len r 8; simp only [List.length_append, List.length_nil]; omega⟩
                 clear hb ho
                 clear t0 t1 t2 t3 t4 t5 t6 t7 t8 t9 t10 t11
                 have t0 : W7.cell? ⟨w.heap.size, 0, none⟩ = some (.int .i64 r.freq) := CELL.out W7 P7.out.bel 0 _ rfl
                 have t1 : W7.cell? ⟨w.heap.size, 1, none⟩ = some (.int .i64 r.intv) := CELL.out W7 P7.out.bel 1 _ rfl
                 have t2 : W7.cell? ⟨w.heap.size, 2, none⟩ = some (.int .i64 0) := (CELL.out W7 P7.out.bel 2 (.int .i64 r.cnt) rfl).trans (by rw [E2.out])
                 have t3 : W7.cell? ⟨w.heap.size, 3, none⟩ = some (.bool false) := (CELL.out W7 P7.out.bel 3 (.bool r.has) rfl).trans (by rw [HH.out])
                 have t4 : W7.cell? ⟨w.heap.size, 4, none⟩ = some (.int .i64 r.unt.secs) := CELL.out W7 P7.out.bel 4 _ rfl
                 have t5 : W7.cell? ⟨w.heap.size, 5, none⟩ = some (.bool r.unt.utc) := CELL.out W7 P7.out.bel 5 _ rfl
                 have t6 : W7.cell? ⟨w.heap.size, 6, none⟩ = some (.bool r.unt.date) := CELL.out W7 P7.out.bel 6 _ rfl
                 have t7 : W7.cell? ⟨w.heap.size, 7, none⟩ = some (.slice a1 r.mon.length c1) := CELL.out W7 P7.out.bel 7 _ rfl
                 have t8 : W7.cell? ⟨w.heap.size, 8, none⟩ = some (.slice a2 r.md.length c2) := CELL.out W7 P7.out.bel 8 _ rfl
                 have t9 : W7.cell? ⟨w.heap.size, 9, none⟩ = some (.slice a3 r.dys.length c3) := CELL.out W7 P7.out.bel 9 _ rfl
                 have t10 : W7.cell? ⟨w.heap.size, 10, none⟩ = some (.slice a4 r.pos.length c4) := CELL.out W7 P7.out.bel 10 _ rfl
                 have t11 : W7.cell? ⟨w.heap.size, 11, none⟩ = some (.int .i64 r.wk) := CELL.out W7 P7.out.bel 11 _ rfl)
              | (go_at_call 34; ((with_reducible refine (prn8 r hF HX8.out w W7 x7 _ _ HV.out (BW.out W7 P7.out.bel) P7.out.bel.size (by have := P7.out.len; omega) P7.out.own).mono ?_)); rintro e W8 ⟨x8, rfl, ho, hb⟩
                 have P8 : Hid (PSt (w.alloc (.cells #[.int .i64 r.freq, .int .i64 r.intv, .int .i64 r.cnt, .bool r.has, .int .i64 r.unt.secs, .bool r.unt.utc, .bool r.unt.date, .slice a1 r.mon.length c1, .slice a2 r.md.length c2, .slice a3 r.dys.length c3, .slice a4 r.pos.length c4, .int .i64 r.wk] 27)) W8 x8 ((((((([] ++ optK r 0) ++ optK r 1) ++ optK r 4) ++ optK r 5) ++ optK r 6) ++ optK r 7) ++ optK r 8)) := Lib.hid ⟨P7.out.bel.trans ((((Below.refl _ W7).alloc (Nat.le_refl _) _).mono P7.out.bel.size).trans hb), ho, by have := optK_len r 0; have := optK_len r 1; have := optK_len r 2; have := optK_len r 3; have := optK_len r 4; have := optK_len r 5; have := optK_len r 6; have := optK_len r 7; have := optK_len r 8; simp only [List.length_append, List.length_nil]; omega⟩
                 clear hb ho
                 clear t0 t1 t2 t3 t4 t5 t6 t7 t8 t9 t10 t11
                 have t0 : W8.cell? ⟨w.heap.size, 0, none⟩ = some (.int .i64 r.freq) := CELL.out W8 P8.out.bel 0 _ rfl
                 have t1 : W8.cell? ⟨w.heap.size, 1, none⟩ = some (.int .i64 r.intv) := CELL.out W8 P8.out.bel 1 _ rfl
                 have t2 : W8.cell? ⟨w.heap.size, 2, none⟩ = some (.int .i64 0) := (CELL.out W8 P8.out.bel 2 (.int .i64 r.cnt) rfl).trans (by rw [E2.out])
                 have t3 : W8.cell? ⟨w.heap.size, 3, none⟩ = some (.bool false) := (CELL.out W8 P8.out.bel 3 (.bool r.has) rfl).trans (by rw [HH.out])
                 have t4 : W8.cell? ⟨w.heap.size, 4, none⟩ = some (.int .i64 r.unt.secs) := CELL.out W8 P8.out.bel 4 _ rfl
                 have t5 : W8.cell? ⟨w.heap.size, 5, none⟩ = some (.bool r.unt.utc) := CELL.out W8 P8.out.bel 5 _ rfl
                 have t6 : W8.cell? ⟨w.heap.size, 6, none⟩ = some (.bool r.unt.date) := CELL.out W8 P8.out.bel 6 _ rfl
                 have t7 : W8.cell? ⟨w.heap.size, 7, none⟩ = some (.slice a1 r.mon.length c1) := CELL.out W8 P8.out.bel 7 _ rfl
                 have t8 : W8.cell? ⟨w.heap.size, 8, none⟩ = some (.slice a2 r.md.length c2) := CELL.out W8 P8.out.bel 8 _ rfl
                 have t9 : W8.cell? ⟨w.heap.size, 9, none⟩ = some (.slice a3 r.dys.length c3) := CELL.out W8 P8.out.bel 9 _ rfl
                 have t10 : W8.cell? ⟨w.heap.size, 10, none⟩ = some (.slice a4 r.pos.length c4) := CELL.out W8 P8.out.bel 10 _ rfl
                 have t11 : W8.cell? ⟨w.heap.size, 11, none⟩ = some (.int .i64 r.wk) := CELL.out W8 P8.out.bel 11 _ rfl)
              | (go_at_call 42; refine (joinP P8.out (by rw [← HPS.out]; exact partsV_ne r) (by rw [← HPS.out]; exact parts_max hF)).mono ?_; rintro e W9 ⟨rfl, hb⟩; have HB9 := Lib.hid (BW.out _ (P8.out.bel.trans (hb.mono P8.out.bel.size))); clear hb))
            go_ret
            exact ⟨by rw [HP.out, HPS.out]; first | rfl | simp, HB9.out⟩
        · have hx2 := no2
          rw [no2] at b2
          clear no2
          cases no8 : hasK r 8
          · have E8 := Lib.hid (show r.wk = 0 by simpa [hasK] using no8)
            clear b8
            have HPS : Hid (partsV r = ((((((([] ++ optK r 0) ++ optK r 1) ++ optK r 2) ++ optK r 4) ++ optK r 5) ++ optK r 6) ++ optK r 7)) := Lib.hid (by
              rw [partsV_is]
              have e3 : optK r 3 = [] := by unfold optK; rw [if_neg (by rw [no3]; decide)]
              have e8 : optK r 8 = [] := by unfold optK; rw [if_neg (by rw [no8]; decide)]
              rw [e3, e8]
              simp)
            have HX1 := Lib.hid hx1
            have HX2 := Lib.hid hx2
            have HU := Lib.hid hu
            clear hu no3 no8 hx1 hx2
            go_enter Tryz.func13, Tryz.ntmps13
            go_wp2_with (first
              | (go_at_call 11; refine cF.mono ?_; rintro e W1 ⟨rfl, hb⟩; clear cF
                 have P1 : Hid (PSt (w.alloc (.cells #[.int .i64 r.freq, .int .i64 r.intv, .int .i64 r.cnt, .bool r.has, .int .i64 r.unt.secs, .bool r.unt.utc, .bool r.unt.date, .slice a1 r.mon.length c1, .slice a2 r.md.length c2, .slice a3 r.dys.length c3, .slice a4 r.pos.length c4, .int .i64 r.wk] 27)) W1 (.slice none 0 0) []) := Lib.hid ⟨hb, World.ownsRow_nil _ _ _ _, by simp⟩
                 clear hb
                 have t0 : W1.cell? ⟨w.heap.size, 0, none⟩ = some (.int .i64 r.freq) := CELL.out W1 P1.out.bel 0 _ rfl
                 have t1 : W1.cell? ⟨w.heap.size, 1, none⟩ = some (.int .i64 r.intv) := CELL.out W1 P1.out.bel 1 _ rfl
                 have t2 : W1.cell? ⟨w.heap.size, 2, none⟩ = some (.int .i64 r.cnt) := CELL.out W1 P1.out.bel 2 _ rfl
                 have t3 : W1.cell? ⟨w.heap.size, 3, none⟩ = some (.bool false) := (CELL.out W1 P1.out.bel 3 (.bool r.has) rfl).trans (by rw [HH.out])
                 have t4 : W1.cell? ⟨w.heap.size, 4, none⟩ = some (.int .i64 r.unt.secs) := CELL.out W1 P1.out.bel 4 _ rfl
                 have t5 : W1.cell? ⟨w.heap.size, 5, none⟩ = some (.bool r.unt.utc) := CELL.out W1 P1.out.bel 5 _ rfl
                 have t6 : W1.cell? ⟨w.heap.size, 6, none⟩ = some (.bool r.unt.date) := CELL.out W1 P1.out.bel 6 _ rfl
                 have t7 : W1.cell? ⟨w.heap.size, 7, none⟩ = some (.slice a1 r.mon.length c1) := CELL.out W1 P1.out.bel 7 _ rfl
                 have t8 : W1.cell? ⟨w.heap.size, 8, none⟩ = some (.slice a2 r.md.length c2) := CELL.out W1 P1.out.bel 8 _ rfl
                 have t9 : W1.cell? ⟨w.heap.size, 9, none⟩ = some (.slice a3 r.dys.length c3) := CELL.out W1 P1.out.bel 9 _ rfl
                 have t10 : W1.cell? ⟨w.heap.size, 10, none⟩ = some (.slice a4 r.pos.length c4) := CELL.out W1 P1.out.bel 10 _ rfl
                 have t11 : W1.cell? ⟨w.heap.size, 11, none⟩ = some (.int .i64 0) := (CELL.out W1 P1.out.bel 11 (.int .i64 r.wk) rfl).trans (by rw [E8.out]))
              | (go_at_call 34; ((with_reducible refine (prn0 r hF w W1 (.slice none 0 0) _ _ HV.out (BW.out W1 P1.out.bel) P1.out.bel.size (by have := P1.out.len; omega) P1.out.own).mono ?_)); rintro e W2 ⟨x2, rfl, ho, hb⟩
                 have P2 : Hid (PSt (w.alloc (.cells #[.int .i64 r.freq, .int .i64 r.intv, .int .i64 r.cnt, .bool r.has, .int .i64 r.unt.secs, .bool r.unt.utc, .bool r.unt.date, .slice a1 r.mon.length c1, .slice a2 r.md.length c2, .slice a3 r.dys.length c3, .slice a4 r.pos.length c4, .int .i64 r.wk] 27)) W2 x2 ([] ++ optK r 0)) := Lib.hid ⟨P1.out.bel.trans ((((Below.refl _ W1).alloc (Nat.le_refl _) _).mono P1.out.bel.size).trans hb), ho, by have := optK_len r 0; have := optK_len r 1; have := optK_len r 2; have := optK_len r 3; have := optK_len r 4; have := optK_len r 5; have := optK_len r 6; have := optK_len r 7; have := optK_len r 8; simp only [List.length_append, List.length_nil]; omega⟩
                 clear hb ho
                 clear t0 t1 t2 t3 t4 t5 t6 t7 t8 t9 t10 t11
                 have t0 : W2.cell? ⟨w.heap.size, 0, none⟩ = some (.int .i64 r.freq) := CELL.out W2 P2.out.bel 0 _ rfl
                 have t1 : W2.cell? ⟨w.heap.size, 1, none⟩ = some (.int .i64 r.intv) := CELL.out W2 P2.out.bel 1 _ rfl
                 have t2 : W2.cell? ⟨w.heap.size, 2, none⟩ = some (.int .i64 r.cnt) := CELL.out W2 P2.out.bel 2 _ rfl
                 have t3 : W2.cell? ⟨w.heap.size, 3, none⟩ = some (.bool false) := (CELL.out W2 P2.out.bel 3 (.bool r.has) rfl).trans (by rw [HH.out])
                 have t4 : W2.cell? ⟨w.heap.size, 4, none⟩ = some (.int .i64 r.unt.secs) := CELL.out W2 P2.out.bel 4 _ rfl
                 have t5 : W2.cell? ⟨w.heap.size, 5, none⟩ = some (.bool r.unt.utc) := CELL.out W2 P2.out.bel 5 _ rfl
                 have t6 : W2.cell? ⟨w.heap.size, 6, none⟩ = some (.bool r.unt.date) := CELL.out W2 P2.out.bel 6 _ rfl
                 have t7 : W2.cell? ⟨w.heap.size, 7, none⟩ = some (.slice a1 r.mon.length c1) := CELL.out W2 P2.out.bel 7 _ rfl
                 have t8 : W2.cell? ⟨w.heap.size, 8, none⟩ = some (.slice a2 r.md.length c2) := CELL.out W2 P2.out.bel 8 _ rfl
                 have t9 : W2.cell? ⟨w.heap.size, 9, none⟩ = some (.slice a3 r.dys.length c3) := CELL.out W2 P2.out.bel 9 _ rfl
                 have t10 : W2.cell? ⟨w.heap.size, 10, none⟩ = some (.slice a4 r.pos.length c4) := CELL.out W2 P2.out.bel 10 _ rfl
                 have t11 : W2.cell? ⟨w.heap.size, 11, none⟩ = some (.int .i64 0) := (CELL.out W2 P2.out.bel 11 (.int .i64 r.wk) rfl).trans (by rw [E8.out]))
              | (go_at_call 34; ((with_reducible refine (prn1 r hF HX1.out w W2 x2 _ _ HV.out (BW.out W2 P2.out.bel) P2.out.bel.size (by have := P2.out.len; omega) P2.out.own).mono ?_)); rintro e W3 ⟨x3, rfl, ho, hb⟩
                 have P3 : Hid (PSt (w.alloc (.cells #[.int .i64 r.freq, .int .i64 r.intv, .int .i64 r.cnt, .bool r.has, .int .i64 r.unt.secs, .bool r.unt.utc, .bool r.unt.date, .slice a1 r.mon.length c1, .slice a2 r.md.length c2, .slice a3 r.dys.length c3, .slice a4 r.pos.length c4, .int .i64 r.wk] 27)) W3 x3 (([] ++ optK r 0) ++ optK r 1)) := Lib.hid ⟨P2.out.bel.trans ((((Below.refl _ W2).alloc (Nat.le_refl _) _).mono P2.out.bel.size).trans hb), ho, by have := optK_len r 0; have := optK_len r 1; have := optK_len r 2; have := optK_len r 3; have := optK_len r 4; have := optK_len r 5; have := optK_len r 6; have := optK_len r 7; have := optK_len r 8; simp only [List.length_append, List.length_nil]; omega⟩
                 clear hb ho
                 clear t0 t1 t2 t3 t4 t5 t6 t7 t8 t9 t10 t11
                 have t0 : W3.cell? ⟨w.heap.size, 0, none⟩ = some (.int .i64 r.freq) := CELL.out W3 P3.out.bel 0 _ rfl
                 have t1 : W3.cell? ⟨w.heap.size, 1, none⟩ = some (.int .i64 r.intv) := CELL.out W3 P3.out.bel 1 _ rfl
                 have t2 : W3.cell? ⟨w.heap.size, 2, none⟩ = some (.int .i64 r.cnt) := CELL.out W3 P3.out.bel 2 _ rfl
                 have t3 : W3.cell? ⟨w.heap.size, 3, none⟩ = some (.bool false) := (CELL.out W3 P3.out.bel 3 (.bool r.has) rfl).trans (by rw [HH.out])
                 have t4 : W3.cell? ⟨w.heap.size, 4, none⟩ = some (.int .i64 r.unt.secs) := CELL.out W3 P3.out.bel 4 _ rfl
                 have t5 : W3.cell? ⟨w.heap.size, 5, none⟩ = some (.bool r.unt.utc) := CELL.out W3 P3.out.bel 5 _ rfl
                 have t6 : W3.cell? ⟨w.heap.size, 6, none⟩ = some (.bool r.unt.date) := CELL.out W3 P3.out.bel 6 _ rfl
                 have t7 : W3.cell? ⟨w.heap.size, 7, none⟩ = some (.slice a1 r.mon.length c1) := CELL.out W3 P3.out.bel 7 _ rfl
                 have t8 : W3.cell? ⟨w.heap.size, 8, none⟩ = some (.slice a2 r.md.length c2) := CELL.out W3 P3.out.bel 8 _ rfl
                 have t9 : W3.cell? ⟨w.heap.size, 9, none⟩ = some (.slice a3 r.dys.length c3) := CELL.out W3 P3.out.bel 9 _ rfl
                 have t10 : W3.cell? ⟨w.heap.size, 10, none⟩ = some (.slice a4 r.pos.length c4) := CELL.out W3 P3.out.bel 10 _ rfl
                 have t11 : W3.cell? ⟨w.heap.size, 11, none⟩ = some (.int .i64 0) := (CELL.out W3 P3.out.bel 11 (.int .i64 r.wk) rfl).trans (by rw [E8.out]))
              | (go_at_call 34; ((with_reducible refine (prn2 r hF HX2.out w W3 x3 _ _ HV.out (BW.out W3 P3.out.bel) P3.out.bel.size (by have := P3.out.len; omega) P3.out.own).mono ?_)); rintro e W4 ⟨x4, rfl, ho, hb⟩
                 have P4 : Hid (PSt (w.alloc (.cells #[.int .i64 r.freq, .int .i64 r.intv, .int .i64 r.cnt, .bool r.has, .int .i64 r.unt.secs, .bool r.unt.utc, .bool r.unt.date, .slice a1 r.mon.length c1, .slice a2 r.md.length c2, .slice a3 r.dys.length c3, .slice a4 r.pos.length c4, .int .i64 r.wk] 27)) W4 x4 ((([] ++ optK r 0) ++ optK r 1) ++ optK r 2)) := Lib.hid ⟨P3.out.bel.trans ((((Below.refl _ W3).alloc (Nat.le_refl _) _).mono P3.out.bel.size).trans hb), ho, by have := optK_len r 0; have := optK_len r 1; have := optK_len r 2; have := optK_len r 3; have := optK_len r 4; have := optK_len r 5; have := optK_len r 6; have := optK_len r 7; have := optK_len r 8; simp only [List.length_append, List.length_nil]; omega⟩
                 clear hb ho
                 clear t0 t1 t2 t3 t4 t5 t6 t7 t8 t9 t10 t11
                 have t0 : W4.cell? ⟨w.heap.size, 0, none⟩ = some (.int .i64 r.freq) := CELL.out W4 P4.out.bel 0 _ rfl
                 have t1 : W4.cell? ⟨w.heap.size, 1, none⟩ = some (.int .i64 r.intv) := CELL.out W4 P4.out.bel 1 _ rfl
                 have t2 : W4.cell? ⟨w.heap.size, 2, none⟩ = some (.int .i64 r.cnt) := CELL.out W4 P4.out.bel 2 _ rfl
                 have t3 : W4.cell? ⟨w.heap.size, 3, none⟩ = some (.bool false) := (CELL.out W4 P4.out.bel 3 (.bool r.has) rfl).trans (by rw [HH.out])
                 have t4 : W4.cell? ⟨w.heap.size, 4, none⟩ = some (.int .i64 r.unt.secs) := CELL.out W4 P4.out.bel 4 _ rfl
                 have t5 : W4.cell? ⟨w.heap.size, 5, none⟩ = some (.bool r.unt.utc) := CELL.out W4 P4.out.bel 5 _ rfl
                 have t6 : W4.cell? ⟨w.heap.size, 6, none⟩ = some (.bool r.unt.date) := CELL.out W4 P4.out.bel 6 _ rfl
                 have t7 : W4.cell? ⟨w.heap.size, 7, none⟩ = some (.slice a1 r.mon.length c1) := CELL.out W4 P4.out.bel 7 _ rfl
                 have t8 : W4.cell? ⟨w.heap.size, 8, none⟩ = some (.slice a2 r.md.length c2) := CELL.out W4 P4.out.bel 8 _ rfl
                 have t9 : W4.cell? ⟨w.heap.size, 9, none⟩ = some (.slice a3 r.dys.length c3) := CELL.out W4 P4.out.bel 9 _ rfl
                 have t10 : W4.cell? ⟨w.heap.size, 10, none⟩ = some (.slice a4 r.pos.length c4) := CELL.out W4 P4.out.bel 10 _ rfl
                 have t11 : W4.cell? ⟨w.heap.size, 11, none⟩ = some (.int .i64 0) := (CELL.out W4 P4.out.bel 11 (.int .i64 r.wk) rfl).trans (by rw [E8.out]))
              | (go_at_call 34; ((with_reducible refine (prn4 r hF w W4 x4 (.slice a1 r.mon.length c1) _ _ HV.out (BW.out W4 P4.out.bel) P4.out.bel.size (by have := P4.out.len; omega) P4.out.own (HS.out.s1.step (BW.out W4 P4.out.bel))).mono ?_)); rintro e W5 ⟨x5, rfl, ho, hb⟩
                 have P5 : Hid (PSt (w.alloc (.cells #[.int .i64 r.freq, .int .i64 r.intv, .int .i64 r.cnt, .bool r.has, .int .i64 r.unt.secs, .bool r.unt.utc, .bool r.unt.date, .slice a1 r.mon.length c1, .slice a2 r.md.length c2, .slice a3 r.dys.length c3, .slice a4 r.pos.length c4, .int .i64 r.wk] 27)) W5 x5 (((([] ++ optK r 0) ++ optK r 1) ++ optK r 2) ++ optK r 4)) := Lib.hid ⟨P4.out.bel.trans hb, ho, by have := optK_len r 0; have := optK_len r 1; have := optK_len r 2; have := optK_len r 3; have := optK_len r 4; have := optK_len r 5; have := optK_len r 6; have := optK_len r 7; have := optK_len r 8; simp only [List.length_append, List.length_nil]; omega⟩
                 clear hb ho
                 clear t0 t1 t2 t3 t4 t5 t6 t7 t8 t9 t10 t11
                 have t0 : W5.cell? ⟨w.heap.size, 0, none⟩ = some (.int .i64 r.freq) := CELL.out W5 P5.out.bel 0 _ rfl
                 have t1 : W5.cell? ⟨w.heap.size, 1, none⟩ = some (.int .i64 r.intv) := CELL.out W5 P5.out.bel 1 _ rfl
                 have t2 : W5.cell? ⟨w.heap.size, 2, none⟩ = some (.int .i64 r.cnt) := CELL.out W5 P5.out.bel 2 _ rfl
                 have t3 : W5.cell? ⟨w.heap.size, 3, none⟩ = some (.bool false) := (CELL.out W5 P5.out.bel 3 (.bool r.has) rfl).trans (by rw [HH.out])
                 have t4 : W5.cell? ⟨w.heap.size, 4, none⟩ = some (.int .i64 r.unt.secs) := CELL.out W5 P5.out.bel 4 _ rfl
                 have t5 : W5.cell? ⟨w.heap.size, 5, none⟩ = some (.bool r.unt.utc) := CELL.out W5 P5.out.bel 5 _ rfl
                 have t6 : W5.cell? ⟨w.heap.size, 6, none⟩ = some (.bool r.unt.date) := CELL.out W5 P5.out.bel 6 _ rfl
                 have t7 : W5.cell? ⟨w.heap.size, 7, none⟩ = some (.slice a1 r.mon.length c1) := CELL.out W5 P5.out.bel 7 _ rfl
                 have t8 : W5.cell? ⟨w.heap.size, 8, none⟩ = some (.slice a2 r.md.length c2) := CELL.out W5 P5.out.bel 8 _ rfl
                 have t9 : W5.cell? ⟨w.heap.size, 9, none⟩ = some (.slice a3 r.dys.length c3) := CELL.out W5 P5.out.bel 9 _ rfl
                 have t10 : W5.cell? ⟨w.heap.size, 10, none⟩ = some (.slice a4 r.pos.length c4) := CELL.out W5 P5.out.bel 10 _ rfl
                 have t11 : W5.cell? ⟨w.heap.size, 11, none⟩ = some (.int .i64 0) := (CELL.out W5 P5.out.bel 11 (.int .i64 r.wk) rfl).trans (by rw [E8.out]))
              | (go_at_call 34; ((with_reducible refine (prn5 r hF w W5 x5 (.slice a2 r.md.length c2) _ _ HV.out (BW.out W5 P5.out.bel) P5.out.bel.size (by have := P5.out.len; omega) P5.out.own (HS.out.s2.step (BW.out W5 P5.out.bel))).mono ?_)); rintro e W6 ⟨x6, rfl, ho, hb⟩
                 have P6 : Hid (PSt (w.alloc (.cells #[.int .i64 r.freq, .int .i64 r.intv, .int .i64 r.cnt, .bool r.has, .int .i64 r.unt.secs, .bool r.unt.utc, .bool r.unt.date, .slice a1 r.mon.length c1, .slice a2 r.md.length c2, .slice a3 r.dys.length c3, .slice a4 r.pos.length c4, .int .i64 r.wk] 27)) W6 x6 ((((([] ++ optK r 0) ++ optK r 1) ++ optK r 2) ++ optK r 4) ++ optK r 5)) := Lib.hid ⟨P5.out.bel.trans hb, ho, by have := optK_len r 0; have := optK_len r 1; have := optK_len r 2; have := optK_len r 3; have := optK_len r 4; have := optK_len r 5; have := optK_len r 6; have := optK_len r 7; have := optK_len r 8; simp only [List.length_append, List.length_nil]; omega⟩
                 clear hb ho
                 clear t0 t1 t2 t3 t4 t5 t6 t7 t8 t9 t10 t11
                 have t0 : W6.cell? ⟨w.heap.size, 0, none⟩ = some (.int .i64 r.freq) := CELL.out W6 P6.out.bel 0 _ rfl
                 have t1 : W6.cell? ⟨w.heap.size, 1, none⟩ = some (.int .i64 r.intv) := CELL.out W6 P6.out.bel 1 _ rfl
                 have t2 : W6.cell? ⟨w.heap.size, 2, none⟩ = some (.int .i64 r.cnt) := CELL.out W6 P6.out.bel 2 _ rfl
                 have t3 : W6.cell? ⟨w.heap.size, 3, none⟩ = some (.bool false) := (CELL.out W6 P6.out.bel 3 (.bool r.has) rfl).trans (by rw [HH.out])
                 have t4 : W6.cell? ⟨w.heap.size, 4, none⟩ = some (.int .i64 r.unt.secs) := CELL.out W6 P6.out.bel 4 _ rfl
                 have t5 : W6.cell? ⟨w.heap.size, 5, none⟩ = some (.bool r.unt.utc) := CELL.out W6 P6.out.bel 5 _ rfl
                 have t6 : W6.cell? ⟨w.heap.size, 6, none⟩ = some (.bool r.unt.date) := CELL.out W6 P6.out.bel 6 _ rfl
                 have t7 : W6.cell? ⟨w.heap.size, 7, none⟩ = some (.slice a1 r.mon.length c1) := CELL.out W6 P6.out.bel 7 _ rfl
                 have t8 : W6.cell? ⟨w.heap.size, 8, none⟩ = some (.slice a2 r.md.length c2) := CELL.out W6 P6.out.bel 8 _ rfl
                 have t9 : W6.cell? ⟨w.heap.size, 9, none⟩ = some (.slice a3 r.dys.length c3) := CELL.out W6 P6.out.bel 9 _ rfl
                 have t10 : W6.cell? ⟨w.heap.size, 10, none⟩ = some (.slice a4 r.pos.length c4) := CELL.out W6 P6.out.bel 10 _ rfl
                 have t11 : W6.cell? ⟨w.heap.size, 11, none⟩ = some (.int .i64 0) := (CELL.out W6 P6.out.bel 11 (.int .i64 r.wk) rfl).trans (by rw [E8.out]))
              | (go_at_call 39; ((with_reducible refine (prn6 r hF w W6 x6 (.slice a3 r.dys.length c3) _ _ HV.out (BW.out W6 P6.out.bel) P6.out.bel.size (by have := P6.out.len; omega) P6.out.own (HS.out.s3.step (BW.out W6 P6.out.bel))).mono ?_)); rintro e W7 ⟨x7, rfl, ho, hb⟩
                 have P7 : Hid (PSt (w.alloc (.cells #[.int .i64 r.freq, .int .i64 r.intv, .int .i64 r.cnt, .bool r.has, .int .i64 r.unt.secs, .bool r.unt.utc, .bool r.unt.date, .slice a1 r.mon.length c1, .slice a2 r.md.length c2, .slice a3 r.dys.length c3, .slice a4 r.pos.length c4, .int .i64 r.wk] 27)) W7 x7 (((((([] ++ optK r 0) ++ optK r 1) ++ optK r 2) ++ optK r 4) ++ optK r 5) ++ optK r 6)) := Lib.hid ⟨P6.out.bel.trans hb, ho, by have := optK_len r 0; have := optK_len r 1; have := optK_len r 2; have := optK_len r 3; have := optK_len r 4; have := optK_len r 5; have := optK_len r 6; have := optK_len r 7; have := optK_len r 8; simp only [List.length_append, List.length_nil]; omega⟩
                 clear hb ho
                 clear t0 t1 t2 t3 t4 t5 t6 t7 t8 t9 t10 t11
                 have t0 : W7.cell? ⟨w.heap.size, 0, none⟩ = some (.int .i64 r.freq) := CELL.out W7 P7.out.bel 0 _ rfl
                 have t1 : W7.cell? ⟨w.heap.size, 1, none⟩ = some (.int .i64 r.intv) := CELL.out W7 P7.out.bel 1 _ rfl
                 have t2 : W7.cell? ⟨w.heap.size, 2, none⟩ = some (.int .i64 r.cnt) := CELL.out W7 P7.out.bel 2 _ rfl
                 have t3 : W7.cell? ⟨w.heap.size, 3, none⟩ = some (.bool false) := (CELL.out W7 P7.out.bel 3 (.bool r.has) rfl).trans (by rw [HH.out])
                 have t4 : W7.cell? ⟨w.heap.size, 4, none⟩ = some (.int .i64 r.unt.secs) := CELL.out W7 P7.out.bel 4 _ rfl
                 have t5 : W7.cell? ⟨w.heap.size, 5, none⟩ = some (.bool r.unt.utc) := CELL.out W7 P7.out.bel 5 _ rfl
                 have t6 : W7.cell? ⟨w.heap.size, 6, none⟩ = some (.bool r.unt.date) := CELL.out W7 P7.out.bel 6 _ rfl
                 have t7 : W7.cell? ⟨w.heap.size, 7, none⟩ = some (.slice a1 r.mon.length c1) := CELL.out W7 P7.out.bel 7 _ rfl
                 have t8 : W7.cell? ⟨w.heap.size, 8, none⟩ = some (.slice a2 r.md.length c2) := CELL.out W7 P7.out.bel 8 _ rfl
                 have t9 : W7.cell? ⟨w.heap.size, 9, none⟩ = some (.slice a3 r.dys.length c3) := CELL.out W7 P7.out.bel 9 _ rfl
                 have t10 : W7.cell? ⟨w.heap.size, 10, none⟩ = some (.slice a4 r.pos.length c4) := CELL.out W7 P7.out.bel 10 _ rfl
                 have t11 : W7.cell? ⟨w.heap.size, 11, none⟩ = some (.int .i64 0) := (CELL.out W7 P7.out.bel 11 (.int .i64 r.wk) rfl).trans (by rw [E8.out]))
              | (go_at_call 34; ((with_reducible refine (prn7 r hF w W7 x7 (.slice a4 r.pos.length c4) _ _ HV.out (BW.out W7 P7.out.bel) P7.out.bel.size (by have := P7.out.len; omega) P7.out.own (HS.out.s4.step (BW.out W7 P7.out.bel))).mono ?_)); rintro e W8 ⟨x8, rfl, ho, hb⟩
                 have P8 : Hid (PSt (w.alloc (.cells #[.int .i64 r.freq, .int .i64 r.intv, .int .i64 r.cnt, .bool r.has, .int .i64 r.unt.secs, .bool r.unt.utc, .bool r.unt.date, .slice a1 r.mon.length c1, .slice a2 r.md.length c2, .slice a3 r.dys.length c3, .slice a4 r.pos.length c4, .int .i64 r.wk] 27)) W8 x8 ((((((([] ++ optK r 0) ++ optK r 1) ++ optK r 2) ++ optK r 4) ++ optK r 5) ++ optK r 6) ++ optK r 7)) := Lib.hid ⟨P7.out.bel.trans hb, ho, by have := optK_len r 0; have := optK_len r 1; have := optK_len r 2; have := optK_len r 3; have := optK_len r 4; have := optK_len r 5; have := optK_len r 6; have := optK_len r 7; have := optK_len r 8; simp only [List.length_append, List.length_nil]; omega⟩
                 clear hb ho
                 clear t0 t1 t2 t3 t4 t5 t6 t7 t8 t9 t10 t11
                 have t0 : W8.cell? ⟨w.heap.size, 0, none⟩ = some (.int .i64 r.freq) := CELL.out W8 P8.out.bel 0 _ rfl
                 have t1 : W8.cell? ⟨w.heap.size, 1, none⟩ = some (.int .i64 r.intv) := CELL.out W8 P8.out.bel 1 _ rfl
                 have t2 : W8.cell? ⟨w.heap.size, 2, none⟩ = some (.int .i64 r.cnt) := CELL.out W8 P8.out.bel 2 _ rfl
                 have t3 : W8.cell? ⟨w.heap.size, 3, none⟩ = some (.bool false) := (CELL.out W8 P8.out.bel 3 (.bool r.has) rfl).trans (by rw [HH.out])
                 have t4 : W8.cell? ⟨w.heap.size, 4, none⟩ = some (.int .i64 r.unt.secs) := CELL.out W8 P8.out.bel 4 _ rfl
                 have t5 : W8.cell? ⟨w.heap.size, 5, none⟩ = some (.bool r.unt.utc) := CELL.out W8 P8.out.bel 5 _ rfl
                 have t6 : W8.cell? ⟨w.heap.size, 6, none⟩ = some (.bool r.unt.date) := CELL.out W8 P8.out.bel 6 _ rfl
                 have t7 : W8.cell? ⟨w.heap.size, 7, none⟩ = some (.slice a1 r.mon.length c1) := CELL.out W8 P8.out.bel 7 _ rfl
                 have t8 : W8.cell? ⟨w.heap.size, 8, none⟩ = some (.slice a2 r.md.length c2) := CELL.out W8 P8.out.bel 8 _ rfl
                 have t9 : W8.cell? ⟨w.heap.size, 9, none⟩ = some (.slice a3 r.dys.length c3) := CELL.out W8 P8.out.bel 9 _ rfl
                 have t10 : W8.cell? ⟨w.heap.size, 10, none⟩ = some (.slice a4 r.pos.length c4) := CELL.out W8 P8.out.bel 10 _ rfl
                 have t11 : W8.cell? ⟨w.heap.size, 11, none⟩ = some (.int .i64 0) := (CELL.out W8 P8.out.bel 11 (.int .i64 r.wk) rfl).trans (by rw [E8.out]))
              | (go_at_call 42; refine (joinP P8.out (by rw [← HPS.out]; exact partsV_ne r) (by rw [← HPS.out]; exact parts_max hF)).mono ?_; rintro e W9 ⟨rfl, hb⟩; have HB9 := Lib.hid (BW.out _ (P8.out.bel.trans (hb.mono P8.out.bel.size))); clear hb))
            go_ret
            exact ⟨by rw [HP.out, HPS.out]; first | rfl | simp, HB9.out⟩
          · have hx8 := no8
            rw [no8] at b8
            clear no8
            have HPS : Hid (partsV r = (((((((([] ++ optK r 0) ++ optK r 1) ++ optK r 2) ++ optK r 4) ++ optK r 5) ++ optK r 6) ++ optK r 7) ++ optK r 8)) := Lib.hid (by
              rw [partsV_is]
              have e3 : optK r 3 = [] := by unfold optK; rw [if_neg (by rw [no3]; decide)]
              rw [e3]
              simp)
            have HX1 := Lib.hid hx1
            have HX2 := Lib.hid hx2
            have HX8 := Lib.hid hx8
            have HU := Lib.hid hu
            clear hu no3 hx1 hx2 hx8
            go_enter Tryz.func13, Tryz.ntmps13
            go_wp2_with (first
              | (go_at_call 11; refine cF.mono ?_; rintro e W1 ⟨rfl, hb⟩; clear cF
                 have P1 : Hid (PSt (w.alloc (.cells #[.int .i64 r.freq, .int .i64 r.intv, .int .i64 r.cnt, .bool r.has, .int .i64 r.unt.secs, .bool r.unt.utc, .bool r.unt.date, .slice a1 r.mon.length c1, .slice a2 r.md.length c2, .slice a3 r.dys.length c3, .slice a4 r.pos.length c4, .int .i64 r.wk] 27)) W1 (.slice none 0 0) []) := Lib.hid ⟨hb, World.ownsRow_nil _ _ _ _, by simp⟩
                 clear hb
                 have t0 : W1.cell? ⟨w.heap.size, 0, none⟩ = some (.int .i64 r.freq) := CELL.out W1 P1.out.bel 0 _ rfl
                 have t1 : W1.cell? ⟨w.heap.size, 1, none⟩ = some (.int .i64 r.intv) := CELL.out W1 P1.out.bel 1 _ rfl
                 have t2 : W1.cell? ⟨w.heap.size, 2, none⟩ = some (.int .i64 r.cnt) := CELL.out W1 P1.out.bel 2 _ rfl
                 have t3 : W1.cell? ⟨w.heap.size, 3, none⟩ = some (.bool false) := (CELL.out W1 P1.out.bel 3 (.bool r.has) rfl).trans (by rw [HH.out])
                 have t4 : W1.cell? ⟨w.heap.size, 4, none⟩ = some (.int .i64 r.unt.secs) := CELL.out W1 P1.out.bel 4 _ rfl
                 have t5 : W1.cell? ⟨w.heap.size, 5, none⟩ = some (.bool r.unt.utc) := CELL.out W1 P1.out.bel 5 _ rfl
                 have t6 : W1.cell? ⟨w.heap.size, 6, none⟩ = some (.bool r.unt.date) := CELL.out W1 P1.out.bel 6 _ rfl
                 have t7 : W1.cell? ⟨w.heap.size, 7, none⟩ = some (.slice a1 r.mon.length c1) := CELL.out W1 P1.out.bel 7 _ rfl
                 have t8 : W1.cell? ⟨w.heap.size, 8, none⟩ = some (.slice a2 r.md.length c2) := CELL.out W1 P1.out.bel 8 _ rfl
                 have t9 : W1.cell? ⟨w.heap.size, 9, none⟩ = some (.slice a3 r.dys.length c3) := CELL.out W1 P1.out.bel 9 _ rfl
                 have t10 : W1.cell? ⟨w.heap.size, 10, none⟩ = some (.slice a4 r.pos.length c4) := CELL.out W1 P1.out.bel 10 _ rfl
                 have t11 : W1.cell? ⟨w.heap.size, 11, none⟩ = some (.int .i64 r.wk) := CELL.out W1 P1.out.bel 11 _ rfl)
              | (go_at_call 34; ((with_reducible refine (prn0 r hF w W1 (.slice none 0 0) _ _ HV.out (BW.out W1 P1.out.bel) P1.out.bel.size (by have := P1.out.len; omega) P1.out.own).mono ?_)); rintro e W2 ⟨x2, rfl, ho, hb⟩
                 have P2 : Hid (PSt (w.alloc (.cells #[.int .i64 r.freq, .int .i64 r.intv, .int .i64 r.cnt, .bool r.has, .int .i64 r.unt.secs, .bool r.unt.utc, .bool r.unt.date, .slice a1 r.mon.length c1, .slice a2 r.md.length c2, .slice a3 r.dys.length c3, .slice a4 r.pos.length c4, .int .i64 r.wk] 27)) W2 x2 ([] ++ optK r 0)) := Lib.hid ⟨P1.out.bel.trans ((((Below.refl _ W1).alloc (Nat.le_refl _) _).mono P1.out.bel.size).trans hb), ho, by have := optK_len r 0; have := optK_len r 1; have := optK_len r 2; have := optK_len r 3; have := optK_len r 4; have := optK_len r 5; have := optK_len r 6; have := optK_len r 7; have := optK_len r 8; simp only [List.length_append, List.length_nil]; omega⟩
                 clear hb ho
                 clear t0 t1 t2 t3 t4 t5 t6 t7 t8 t9 t10 t11
                 have t0 : W2.cell? ⟨w.heap.size, 0, none⟩ = some (.int .i64 r.freq) := CELL.out W2 P2.out.bel 0 _ rfl
                 have t1 : W2.cell? ⟨w.heap.size, 1, none⟩ = some (.int .i64 r.intv) := CELL.out W2 P2.out.bel 1 _ rfl
                 have t2 : W2.cell? ⟨w.heap.size, 2, none⟩ = some (.int .i64 r.cnt) := CELL.out W2 P2.out.bel 2 _ rfl
                 have t3 : W2.cell? ⟨w.heap.size, 3, none⟩ = some (.bool false) := (CELL.out W2 P2.out.bel 3 (.bool r.has) rfl).trans (by rw [HH.out])
                 have t4 : W2.cell? ⟨w.heap.size, 4, none⟩ = some (.int .i64 r.unt.secs) := CELL.out W2 P2.out.bel 4 _ rfl
                 have t5 : W2.cell? ⟨w.heap.size, 5, none⟩ = some (.bool r.unt.utc) := CELL.out W2 P2.out.bel 5 _ rfl
                 have t6 : W2.cell? ⟨w.heap.size, 6, none⟩ = some (.bool r.unt.date) := CELL.out W2 P2.out.bel 6 _ rfl
                 have t7 : W2.cell? ⟨w.heap.size, 7, none⟩ = some (.slice a1 r.mon.length c1) := CELL.out W2 P2.out.bel 7 _ rfl
                 have t8 : W2.cell? ⟨w.heap.size, 8, none⟩ = some (.slice a2 r.md.length c2) := CELL.out W2 P2.out.bel 8 _ rfl
                 have t9 : W2.cell? ⟨w.heap.size, 9, none⟩ = some (.slice a3 r.dys.length c3) := CELL.out W2 P2.out.bel 9 _ rfl
                 have t10 : W2.cell? ⟨w.heap.size, 10, none⟩ = some (.slice a4 r.pos.length c4) := CELL.out W2 P2.out.bel 10 _ rfl
                 have t11 : W2.cell? ⟨w.heap.size, 11, none⟩ = some (.int .i64 r.wk) := CELL.out W2 P2.out.bel 11 _ rfl)
              | (go_at_call 34; ((with_reducible refine (prn1 r hF HX1.out w W2 x2 _ _ HV.out (BW.out W2 P2.out.bel) P2.out.bel.size (by have := P2.out.len; omega) P2.out.own).mono ?_)); rintro e W3 ⟨x3, rfl, ho, hb⟩
                 have P3 : Hid (PSt (w.alloc (.cells #[.int .i64 r.freq, .int .i64 r.intv, .int .i64 r.cnt, .bool r.has, .int .i64 r.unt.secs, .bool r.unt.utc, .bool r.unt.date, .slice a1 r.mon.length c1, .slice a2 r.md.length c2, .slice a3 r.dys.length c3, .slice a4 r.pos.length c4, .int .i64 r.wk] 27)) W3 x3 (([] ++ optK r 0) ++ optK r 1)) := Lib.hid ⟨P2.out.bel.trans ((((Below.refl _ W2).alloc (Nat.le_refl _) _).mono P2.out.bel.size).trans hb), ho, by have := optK_len r 0; have := optK_len r 1; have := optK_len r 2; have := optK_len r 3; have := optK_len r 4; have := optK_len r 5; have := optK_len r 6; have := optK_len r 7; have := optK_len r 8; simp only [List.length_append, List.length_nil]; omega⟩
                 clear hb ho
                 clear t0 t1 t2 t3 t4 t5 t6 t7 t8 t9 t10 t11
                 have t0 : W3.cell? ⟨w.heap.size, 0, none⟩ = some (.int .i64 r.freq) := CELL.out W3 P3.out.bel 0 _ rfl
                 have t1 : W3.cell? ⟨w.heap.size, 1, none⟩ = some (.int .i64 r.intv) := CELL.out W3 P3.out.bel 1 _ rfl
                 have t2 : W3.cell? ⟨w.heap.size, 2, none⟩ = some (.int .i64 r.cnt) := CELL.out W3 P3.out.bel 2 _ rfl
                 have t3 : W3.cell? ⟨w.heap.size, 3, none⟩ = some (.bool false) := (CELL.out W3 P3.out.bel 3 (.bool r.has) rfl).trans (by rw [HH.out])
                 have t4 : W3.cell? ⟨w.heap.size, 4, none⟩ = some (.int .i64 r.unt.secs) := CELL.out W3 P3.out.bel 4 _ rfl
                 have t5 : W3.cell? ⟨w.heap.size, 5, none⟩ = some (.bool r.unt.utc) := CELL.out W3 P3.out.bel 5 _ rfl
                 have t6 : W3.cell? ⟨w.heap.size, 6, none⟩ = some (.bool r.unt.date) := CELL.out W3 P3.out.bel 6 _ rfl
                 have t7 : W3.cell? ⟨w.heap.size, 7, none⟩ = some (.slice a1 r.mon.length c1) := CELL.out W3 P3.out.bel 7 _ rfl
                 have t8 : W3.cell? ⟨w.heap.size, 8, none⟩ = some (.slice a2 r.md.length c2) := CELL.out W3 P3.out.bel 8 _ rfl
                 have t9 : W3.cell? ⟨w.heap.size, 9, none⟩ = some (.slice a3 r.dys.length c3) := CELL.out W3 P3.out.bel 9 _ rfl
                 have t10 : W3.cell? ⟨w.heap.size, 10, none⟩ = some (.slice a4 r.pos.length c4) := CELL.out W3 P3.out.bel 10 _ rfl
                 have t11 : W3.cell? ⟨w.heap.size, 11, none⟩ = some (.int .i64 r.wk) := CELL.out W3 P3.out.bel 11 _ rfl)
              | (go_at_call 34; ((with_reducible refine (prn2 r hF HX2.out w W3 x3 _ _ HV.out (BW.out W3 P3.out.bel) P3.out.bel.size (by have := P3.out.len; omega) P3.out.own).mono ?_)); rintro e W4 ⟨x4, rfl, ho, hb⟩
                 have P4 : Hid (PSt (w.alloc (.cells #[.int .i64 r.freq, .int .i64 r.intv, .int .i64 r.cnt, .bool r.has, .int .i64 r.unt.secs, .bool r.unt.utc, .bool r.unt.date, .slice a1 r.mon.length c1, .slice a2 r.md.length c2, .slice a3 r.dys.length c3, .slice a4 r.pos.length c4, .int .i64 r.wk] 27)) W4 x4 ((([] ++ optK r 0) ++ optK r 1) ++ optK r 2)) := Lib.hid ⟨P3.out.bel.trans ((((Below.refl _ W3).alloc (Nat.le_refl _) _).mono P3.out.bel.size).trans hb), ho, by have := optK_len r 0; have := optK_len r 1; have := optK_len r 2; have := optK_len r 3; have := optK_len r 4; have := optK_len r 5; have := optK_len r 6; have := optK_len r 7; have := optK_len r 8; simp only [List.length_append, List.length_nil]; omega⟩
                 clear hb ho
                 clear t0 t1 t2 t3 t4 t5 t6 t7 t8 t9 t10 t11
                 have t0 : W4.cell? ⟨w.heap.size, 0, none⟩ = some (.int .i64 r.freq) := CELL.out W4 P4.out.bel 0 _ rfl
                 have t1 : W4.cell? ⟨w.heap.size, 1, none⟩ = some (.int .i64 r.intv) := CELL.out W4 P4.out.bel 1 _ rfl
                 have t2 : W4.cell? ⟨w.heap.size, 2, none⟩ = some (.int .i64 r.cnt) := CELL.out W4 P4.out.bel 2 _ rfl
                 have t3 : W4.cell? ⟨w.heap.size, 3, none⟩ = some (.bool false) := (CELL.out W4 P4.out.bel 3 (.bool r.has) rfl).trans (by rw [HH.out])
                 have t4 : W4.cell? ⟨w.heap.size, 4, none⟩ = some (.int .i64 r.unt.secs) := CELL.out W4 P4.out.bel 4 _ rfl
                 have t5 : W4.cell? ⟨w.heap.size, 5, none⟩ = some (.bool r.unt.utc) := CELL.out W4 P4.out.bel 5 _ rfl
                 have t6 : W4.cell? ⟨w.heap.size, 6, none⟩ = some (.bool r.unt.date) := CELL.out W4 P4.out.bel 6 _ rfl
                 have t7 : W4.cell? ⟨w.heap.size, 7, none⟩ = some (.slice a1 r.mon.length c1) := CELL.out W4 P4.out.bel 7 _ rfl
                 have t8 : W4.cell? ⟨w.heap.size, 8, none⟩ = some (.slice a2 r.md.length c2) := CELL.out W4 P4.out.bel 8 _ rfl
                 have t9 : W4.cell? ⟨w.heap.size, 9, none⟩ = some (.slice a3 r.dys.length c3) := CELL.out W4 P4.out.bel 9 _ rfl
                 have t10 : W4.cell? ⟨w.heap.size, 10, none⟩ = some (.slice a4 r.pos.length c4) := CELL.out W4 P4.out.bel 10 _ rfl
                 have t11 : W4.cell? ⟨w.heap.size, 11, none⟩ = some (.int .i64 r.wk) := CELL.out W4 P4.out.bel 11 _ rfl)
              | (go_at_call 34; ((with_reducible refine (prn4 r hF w W4 x4 (.slice a1 r.mon.length c1) _ _ HV.out (BW.out W4 P4.out.bel) P4.out.bel.size (by have := P4.out.len; omega) P4.out.own (HS.out.s1.step (BW.out W4 P4.out.bel))).mono ?_)); rintro e W5 ⟨x5, rfl, ho, hb⟩
                 have P5 : Hid (PSt (w.alloc (.cells #[.int .i64 r.freq, .int .i64 r.intv, .int .i64 r.cnt, .bool r.has, .int .i64 r.unt.secs, .bool r.unt.utc, .bool r.unt.date, .slice a1 r.mon.length c1, .slice a2 r.md.length c2, .slice a3 r.dys.length c3, .slice a4 r.pos.length c4, .int .i64 r.wk] 27)) W5 x5 (((([] ++ optK r 0) ++ optK r 1) ++ optK r 2) ++ optK r 4)) := Lib.hid ⟨P4.out.bel.trans hb, ho, by have := optK_len r 0; have := optK_len r 1; have := optK_len r 2; have := optK_len r 3; have := optK_len r 4; have := optK_len r 5; have := optK_len r 6; have := optK_len r 7; have := optK_len r 8; simp only [List.length_append, List.length_nil]; omega⟩
                 clear hb ho
                 clear t0 t1 t2 t3 t4 t5 t6 t7 t8 t9 t10 t11
                 have t0 : W5.cell? ⟨w.heap.size, 0, none⟩ = some (.int .i64 r.freq) := CELL.out W5 P5.out.bel 0 _ rfl
                 have t1 : W5.cell? ⟨w.heap.size, 1, none⟩ = some (.int .i64 r.intv) := CELL.out W5 P5.out.bel 1 _ rfl
                 have t2 : W5.cell? ⟨w.heap.size, 2, none⟩ = some (.int .i64 r.cnt) := CELL.out W5 P5.out.bel 2 _ rfl
                 have t3 : W5.cell? ⟨w.heap.size, 3, none⟩ = some (.bool false) := (CELL.out W5 P5.out.bel 3 (.bool r.has) rfl).trans (by rw [HH.out])
                 have t4 : W5.cell? ⟨w.heap.size, 4, none⟩ = some (.int .i64 r.unt.secs) := CELL.out W5 P5.out.bel 4 _ rfl
                 have t5 : W5.cell? ⟨w.heap.size, 5, none⟩ = some (.bool r.unt.utc) := CELL.out W5 P5.out.bel 5 _ rfl
                 have t6 : W5.cell? ⟨w.heap.size, 6, none⟩ = some (.bool r.unt.date) := CELL.out W5 P5.out.bel 6 _ rfl
                 have t7 : W5.cell? ⟨w.heap.size, 7, none⟩ = some (.slice a1 r.mon.length c1) := CELL.out W5 P5.out.bel 7 _ rfl
                 have t8 : W5.cell? ⟨w.heap.size, 8, none⟩ = some (.slice a2 r.md.length c2) := CELL.out W5 P5.out.bel 8 _ rfl
                 have t9 : W5.cell? ⟨w.heap.size, 9, none⟩ = some (.slice a3 r.dys.length c3) := CELL.out W5 P5.out.bel 9 _ rfl
                 have t10 : W5.cell? ⟨w.heap.size, 10, none⟩ = some (.slice a4 r.pos.length c4) := CELL.out W5 P5.out.bel 10 _ rfl
                 have t11 : W5.cell? ⟨w.heap.size, 11, none⟩ = some (.int .i64 r.wk) := CELL.out W5 P5.out.bel 11 _ rfl)
              | (go_at_call 34; ((with_reducible refine (prn5 r hF w W5 x5 (.slice a2 r.md.length c2) _ _ HV.out (BW.out W5 P5.out.bel) P5.out.bel.size (by have := P5.out.len; omega) P5.out.own (HS.out.s2.step (BW.out W5 P5.out.bel))).mono ?_)); rintro e W6 ⟨x6, rfl, ho, hb⟩
                 have P6 : Hid (PSt (w.alloc (.cells #[.int .i64 r.freq, .int .i64 r.intv, .int .i64 r.cnt, .bool r.has, .int .i64 r.unt.secs, .bool r.unt.utc, .bool r.unt.date, .slice a1 r.mon.length c1, .slice a2 r.md.length c2, .slice a3 r.dys.length c3, .slice a4 r.pos.length c4, .int .i64 r.wk] 27)) W6 x6 ((((([] ++ optK r 0) ++ optK r 1) ++ optK r 2) ++ optK r 4) ++ optK r 5)) := Lib.hid ⟨P5.out.bel.trans hb, ho, by have := optK_len r 0; have := optK_len r 1; have := optK_len r 2; have := optK_len r 3; have := optK_len r 4; have := optK_len r 5; have := optK_len r 6; have := optK_len r 7; have := optK_len r 8; simp only [List.length_append, List.length_nil]; omega⟩
                 clear hb ho
                 clear t0 t1 t2 t3 t4 t5 t6 t7 t8 t9 t10 t11
                 have t0 : W6.cell? ⟨w.heap.size, 0, none⟩ = some (.int .i64 r.freq) := CELL.out W6 P6.out.bel 0 _ rfl
                 have t1 : W6.cell? ⟨w.heap.size, 1, none⟩ = some (.int .i64 r.intv) := CELL.out W6 P6.out.bel 1 _ rfl
                 have t2 : W6.cell? ⟨w.heap.size, 2, none⟩ = some (.int .i64 r.cnt) := CELL.out W6 P6.out.bel 2 _ rfl
                 have t3 : W6.cell? ⟨w.heap.size, 3, none⟩ = some (.bool false) := (CELL.out W6 P6.out.bel 3 (.bool r.has) rfl).trans (by rw [HH.out])
                 have t4 : W6.cell? ⟨w.heap.size, 4, none⟩ = some (.int .i64 r.unt.secs) := CELL.out W6 P6.out.bel 4 _ rfl
                 have t5 : W6.cell? ⟨w.heap.size, 5, none⟩ = some (.bool r.unt.utc) := CELL.out W6 P6.out.bel 5 _ rfl
                 have t6 : W6.cell? ⟨w.heap.size, 6, none⟩ = some (.bool r.unt.date) := CELL.out W6 P6.out.bel 6 _ rfl
                 have t7 : W6.cell? ⟨w.heap.size, 7, none⟩ = some (.slice a1 r.mon.length c1) := CELL.out W6 P6.out.bel 7 _ rfl
                 have t8 : W6.cell? ⟨w.heap.size, 8, none⟩ = some (.slice a2 r.md.length c2) := CELL.out W6 P6.out.bel 8 _ rfl
                 have t9 : W6.cell? ⟨w.heap.size, 9, none⟩ = some (.slice a3 r.dys.length c3) := CELL.out W6 P6.out.bel 9 _ rfl
                 have t10 : W6.cell? ⟨w.heap.size, 10, none⟩ = some (.slice a4 r.pos.length c4) := CELL.out W6 P6.out.bel 10 _ rfl
                 have t11 : W6.cell? ⟨w.heap.size, 11, none⟩ = some (.int .i64 r.wk) := CELL.out W6 P6.out.bel 11 _ rfl)
              | (go_at_call 39; ((with_reducible refine (prn6 r hF w W6 x6 (.slice a3 r.dys.length c3) _ _ HV.out (BW.out W6 P6.out.bel) P6.out.bel.size (by have := P6.out.len; omega) P6.out.own (HS.out.s3.step (BW.out W6 P6.out.bel))).mono ?_)); rintro e W7 ⟨x7, rfl, ho, hb⟩
                 have P7 : Hid (PSt (w.alloc (.cells #[.int .i64 r.freq, .int .i64 r.intv, .int .i64 r.cnt, .bool r.has, .int .i64 r.unt.secs, .bool r.unt.utc, .bool r.unt.date, .slice a1 r.mon.length c1, .slice a2 r.md.length c2, .slice a3 r.dys.length c3, .slice a4 r.pos.length c4, .int .i64 r.wk] 27)) W7 x7 (((((([] ++ optK r 0) ++ optK r 1) ++ optK r 2) ++ optK r 4) ++ optK r 5) ++ optK r 6)) := Lib.hid ⟨P6.out.bel.trans hb, ho, by have := optK_len r 0; have := optK_len r 1; have := optK_len r 2; have := optK_len r 3; have := optK_len r 4; have := optK_len r 5; have := optK_len r 6; have := optK_len r 7; have := optK_len r 8; simp only [List.length_append, List.length_nil]; omega⟩
                 clear hb ho
                 clear t0 t1 t2 t3 t4 t5 t6 t7 t8 t9 t10 t11
                 have t0 : W7.cell? ⟨w.heap.size, 0, none⟩ = some (.int .i64 r.freq) := CELL.out W7 P7.out.bel 0 _ rfl
                 have t1 : W7.cell? ⟨w.heap.size, 1, none⟩ = some (.int .i64 r.intv) := CELL.out W7 P7.out.bel 1 _ rfl
                 have t2 : W7.cell? ⟨w.heap.size, 2, none⟩ = some (.int .i64 r.cnt) := CELL.out W7 P7.out.bel 2 _ rfl
                 have t3 : W7.cell? ⟨w.heap.size, 3, none⟩ = some (.bool false) := (CELL.out W7 P7.out.bel 3 (.bool r.has) rfl).trans (by rw [HH.out])
                 have t4 : W7.cell? ⟨w.heap.size, 4, none⟩ = some (.int .i64 r.unt.secs) := CELL.out W7 P7.out.bel 4 _ rfl
                 have t5 : W7.cell? ⟨w.heap.size, 5, none⟩ = some (.bool r.unt.utc) := CELL.out W7 P7.out.bel 5 _ rfl
                 have t6 : W7.cell? ⟨w.heap.size, 6, none⟩ = some (.bool r.unt.date) := CELL.out W7 P7.out.bel 6 _ rfl
                 have t7 : W7.cell? ⟨w.heap.size, 7, none⟩ = some (.slice a1 r.mon.length c1) := CELL.out W7 P7.out.bel 7 _ rfl
                 have t8 : W7.cell? ⟨w.heap.size, 8, none⟩ = some (.slice a2 r.md.length c2) := CELL.out W7 P7.out.bel 8 _ rfl
                 have t9 : W7.cell? ⟨w.heap.size, 9, none⟩ = some (.slice a3 r.dys.length c3) := CELL.out W7 P7.out.bel 9 _ rfl
                 have t10 : W7.cell? ⟨w.heap.size, 10, none⟩ = some (.slice a4 r.pos.length c4) := CELL.out W7 P7.out.bel 10 _ rfl
                 have t11 : W7.cell? ⟨w.heap.size, 11, none⟩ = some (.int .i64 r.wk) := CELL.out W7 P7.out.bel 11 _ rfl)
              | (go_at_call 34; ((with_reducible refine (prn7 r hF w W7 x7 (.slice a4 r.pos.length c4) _ _ HV.out (BW.out W7 P7.out.bel) P7.out.bel.size (by have := P7.out.len; omega) P7.out.own (HS.out.s4.step (BW.out W7 P7.out.bel))).mono ?_)); rintro e W8 ⟨x8, rfl, ho, hb⟩
                 have P8 : Hid (PSt (w.alloc (.cells #[.int .i64 r.freq, .int .i64 r.intv, .int .i64 r.cnt, .bool r.has, .int .i64 r.unt.secs, .bool r.unt.utc, .bool r.unt.date, .slice a1 r.mon.length c1, .slice a2 r.md.length c2, .slice a3 r.dys.length c3, .slice a4 r.pos.length c4, .int .i64 r.wk] 27)) W8 x8 ((((((([] ++ optK r 0) ++ optK r 1) ++ optK r 2) ++ optK r 4) ++ optK r 5) ++ optK r 6) ++ optK r 7)) := Lib.hid ⟨P7.out.bel.trans hb, ho, by have := optK_len r 0; have := optK_len r 1; have := optK_len r 2; have := optK_len r 3; have := optK_len r 4; have := optK_len r 5; have := optK_len r 6; have := optK_len r 7; have := optK_len r 8; simp only [List.length_append, List.length_nil]; omega⟩
                 clear hb ho
                 clear t0 t1 t2 t3 t4 t5 t6 t7 t8 t9 t10 t11
                 have t0 : W8.cell? ⟨w.heap.size, 0, none⟩ = some (.int .i64 r.freq) := CELL.out W8 P8.out.bel 0 _ rfl
                 have t1 : W8.cell? ⟨w.heap.size, 1, none⟩ = some (.int .i64 r.intv) := CELL.out W8 P8.out.bel 1 _ rfl
                 have t2 : W8.cell? ⟨w.heap.size, 2, none⟩ = some (.int .i64 r.cnt) := CELL.out W8 P8.out.bel 2 _ rfl
                 have t3 : W8.cell? ⟨w.heap.size, 3, none⟩ = some (.bool false) := (CELL.out W8 P8.out.bel 3 (.bool r.has) rfl).trans (by rw [HH.out])
                 have t4 : W8.cell? ⟨w.heap.size, 4, none⟩ = some (.int .i64 r.unt.secs) := CELL.out W8 P8.out.bel 4 _ rfl
                 have t5 : W8.cell? ⟨w.heap.size, 5, none⟩ = some (.bool r.unt.utc) := CELL.out W8 P8.out.bel 5 _ rfl
                 have t6 : W8.cell? ⟨w.heap.size, 6, none⟩ = some (.bool r.unt.date) := CELL.out W8 P8.out.bel 6 _ rfl
                 have t7 : W8.cell? ⟨w.heap.size, 7, none⟩ = some (.slice a1 r.mon.length c1) := CELL.out W8 P8.out.bel 7 _ rfl
                 have t8 : W8.cell? ⟨w.heap.size, 8, none⟩ = some (.slice a2 r.md.length c2) := CELL.out W8 P8.out.bel 8 _ rfl
                 have t9 : W8.cell? ⟨w.heap.size, 9, none⟩ = some (.slice a3 r.dys.length c3) := CELL.out W8 P8.out.bel 9 _ rfl
                 have t10 : W8.cell? ⟨w.heap.size, 10, none⟩ = some (.slice a4 r.pos.length c4) := CELL.out W8 P8.out.bel 10 _ rfl
                 have t11 : W8.cell? ⟨w.heap.size, 11, none⟩ = some (.int .i64 r.wk) := CELL.out W8 P8.out.bel 11 _ rfl)
              | (go_at_call 34; ((with_reducible refine (prn8 r hF HX8.out w W8 x8 _ _ HV.out (BW.out W8 P8.out.bel) P8.out.bel.size (by have := P8.out.len; omega) P8.out.own).mono ?_)); rintro e W9 ⟨x9, rfl, ho, hb⟩
                 have P9 : Hid (PSt (w.alloc (.cells #[.int .i64 r.freq, .int .i64 r.intv, .int .i64 r.cnt, .bool r.has, .int .i64 r.unt.secs, .bool r.unt.utc, .bool r.unt.date, .slice a1 r.mon.length c1, .slice a2 r.md.length c2, .slice a3 r.dys.length c3, .slice a4 r.pos.length c4, .int .i64 r.wk] 27)) W9 x9 (((((((([] ++ optK r 0) ++ optK r 1) ++ optK r 2) ++ optK r 4) ++ optK r 5) ++ optK r 6) ++ optK r 7) ++ optK r 8)) := Lib.hid ⟨P8.out.bel.trans ((((Below.refl _ W8).alloc (Nat.le_refl _) _).mono P8.out.bel.size).trans hb), ho, by have := optK_len r 0; have := optK_len r 1; have := optK_len r 2; have := optK_len r 3; have := optK_len r 4; have := optK_len r 5; have := optK_len r 6; have := optK_len r 7; have := optK_len r 8; simp only [List.length_append, List.length_nil]; omega⟩
                 clear hb ho
                 clear t0 t1 t2 t3 t4 t5 t6 t7 t8 t9 t10 t11
                 have t0 : W9.cell? ⟨w.heap.size, 0, none⟩ = some (.int .i64 r.freq) := CELL.out W9 P9.out.bel 0 _ rfl
                 have t1 : W9.cell? ⟨w.heap.size, 1, none⟩ = some (.int .i64 r.intv) := CELL.out W9 P9.out.bel 1 _ rfl
                 have t2 : W9.cell? ⟨w.heap.size, 2, none⟩ = some (.int .i64 r.cnt) := CELL.out W9 P9.out.bel 2 _ rfl
                 have t3 : W9.cell? ⟨w.heap.size, 3, none⟩ = some (.bool false) := (CELL.out W9 P9.out.bel 3 (.bool r.has) rfl).trans (by rw [HH.out])
                 have t4 : W9.cell? ⟨w.heap.size, 4, none⟩ = some (.int .i64 r.unt.secs) := CELL.out W9 P9.out.bel 4 _ rfl
                 have t5 : W9.cell? ⟨w.heap.size, 5, none⟩ = some (.bool r.unt.utc) := CELL.out W9 P9.out.bel 5 _ rfl
                 have t6 : W9.cell? ⟨w.heap.size, 6, none⟩ = some (.bool r.unt.date) := CELL.out W9 P9.out.bel 6 _ rfl
                 have t7 : W9.cell? ⟨w.heap.size, 7, none⟩ = some (.slice a1 r.mon.length c1) := CELL.out W9 P9.out.bel 7 _ rfl
                 have t8 : W9.cell? ⟨w.heap.size, 8, none⟩ = some (.slice a2 r.md.length c2) := CELL.out W9 P9.out.bel 8 _ rfl
                 have t9 : W9.cell? ⟨w.heap.size, 9, none⟩ = some (.slice a3 r.dys.length c3) := CELL.out W9 P9.out.bel 9 _ rfl
                 have t10 : W9.cell? ⟨w.heap.size, 10, none⟩ = some (.slice a4 r.pos.length c4) := CELL.out W9 P9.out.bel 10 _ rfl
                 have t11 : W9.cell? ⟨w.heap.size, 11, none⟩ = some (.int .i64 r.wk) := CELL.out W9 P9.out.bel 11 _ rfl)
              | (go_at_call 42; refine (joinP P9.out (by rw [← HPS.out]; exact partsV_ne r) (by rw [← HPS.out]; exact parts_max hF)).mono ?_; rintro e W9 ⟨rfl, hb⟩; have HB9 := Lib.hid (BW.out _ (P9.out.bel.trans (hb.mono P9.out.bel.size))); clear hb))
            go_ret
            exact ⟨by rw [HP.out, HPS.out]; first | rfl | simp, HB9.out⟩
      · have hx3 : hasK r 3 = true := hh
        have no2 : hasK r 2 = false := by unfold hasK; simp [HCU.out hh]
        have E2 := Lib.hid (HCU.out hh)
        clear b2
        have HH := Lib.hid hh
        clear hh
        cases no8 : hasK r 8
        · have E8 := Lib.hid (show r.wk = 0 by simpa [hasK] using no8)
          clear b8
          have HPS : Hid (partsV r = ((((((([] ++ optK r 0) ++ optK r 1) ++ optK r 3) ++ optK r 4) ++ optK r 5) ++ optK r 6) ++ optK r 7)) := Lib.hid (by
            rw [partsV_is]
            have e2 : optK r 2 = [] := by unfold optK; rw [if_neg (by rw [no2]; decide)]
            have e8 : optK r 8 = [] := by unfold optK; rw [if_neg (by rw [no8]; decide)]
            rw [e2, e8]
            simp)
          have HX1 := Lib.hid hx1
          have HX3 := Lib.hid hx3
          have HU := Lib.hid hu
          clear hu no2 no8 hx1 hx3
          go_enter Tryz.func13, Tryz.ntmps13
          go_wp2_with (first
            | (go_at_call 11; refine cF.mono ?_; rintro e W1 ⟨rfl, hb⟩; clear cF
               have P1 : Hid (PSt (w.alloc (.cells #[.int .i64 r.freq, .int .i64 r.intv, .int .i64 r.cnt, .bool r.has, .int .i64 r.unt.secs, .bool r.unt.utc, .bool r.unt.date, .slice a1 r.mon.length c1, .slice a2 r.md.length c2, .slice a3 r.dys.length c3, .slice a4 r.pos.length c4, .int .i64 r.wk] 27)) W1 (.slice none 0 0) []) := Lib.hid ⟨hb, World.ownsRow_nil _ _ _ _, by simp⟩
               clear hb
               have t0 : W1.cell? ⟨w.heap.size, 0, none⟩ = some (.int .i64 r.freq) := CELL.out W1 P1.out.bel 0 _ rfl
               have t1 : W1.cell? ⟨w.heap.size, 1, none⟩ = some (.int .i64 r.intv) := CELL.out W1 P1.out.bel 1 _ rfl
               have t2 : W1.cell? ⟨w.heap.size, 2, none⟩ = some (.int .i64 0) := (CELL.out W1 P1.out.bel 2 (.int .i64 r.cnt) rfl).trans (by rw [E2.out])
               have t3 : W1.cell? ⟨w.heap.size, 3, none⟩ = some (.bool true) := (CELL.out W1 P1.out.bel 3 (.bool r.has) rfl).trans (by rw [HH.out])
               have t4 : W1.cell? ⟨w.heap.size, 4, none⟩ = some (.int .i64 r.unt.secs) := CELL.out W1 P1.out.bel 4 _ rfl
               have t5 : W1.cell? ⟨w.heap.size, 5, none⟩ = some (.bool r.unt.utc) := CELL.out W1 P1.out.bel 5 _ rfl
               have t6 : W1.cell? ⟨w.heap.size, 6, none⟩ = some (.bool r.unt.date) := CELL.out W1 P1.out.bel 6 _ rfl
               have t7 : W1.cell? ⟨w.heap.size, 7, none⟩ = some (.slice a1 r.mon.length c1) := CELL.out W1 P1.out.bel 7 _ rfl
               have t8 : W1.cell? ⟨w.heap.size, 8, none⟩ = some (.slice a2 r.md.length c2) := CELL.out W1 P1.out.bel 8 _ rfl
               have t9 : W1.cell? ⟨w.heap.size, 9, none⟩ = some (.slice a3 r.dys.length c3) := CELL.out W1 P1.out.bel 9 _ rfl
               have t10 : W1.cell? ⟨w.heap.size, 10, none⟩ = some (.slice a4 r.pos.length c4) := CELL.out W1 P1.out.bel 10 _ rfl
               have t11 : W1.cell? ⟨w.heap.size, 11, none⟩ = some (.int .i64 0) := (CELL.out W1 P1.out.bel 11 (.int .i64 r.wk) rfl).trans (by rw [E8.out]))
            | (go_at_call 34; ((with_reducible refine (prn0 r hF w W1 (.slice none 0 0) _ _ HV.out (BW.out W1 P1.out.bel) P1.out.bel.size (by have := P1.out.len; omega) P1.out.own).mono ?_)); rintro e W2 ⟨x2, rfl, ho, hb⟩
               have P2 : Hid (PSt (w.alloc (.cells #[.int .i64 r.freq, .int .i64 r.intv, .int .i64 r.cnt, .bool r.has, .int .i64 r.unt.secs, .bool r.unt.utc, .bool r.unt.date, .slice a1 r.mon.length c1, .slice a2 r.md.length c2, .slice a3 r.dys.length c3, .slice a4 r.pos.length c4, .int .i64 r.wk] 27)) W2 x2 ([] ++ optK r 0)) := Lib.hid ⟨P1.out.bel.trans ((((Below.refl _ W1).alloc (Nat.le_refl _) _).mono P1.out.bel.size).trans hb), ho, by have := optK_len r 0; have := optK_len r 1; have := optK_len r 2; have := optK_len r 3; have := optK_len r 4; have := optK_len r 5; have := optK_len r 6; have := optK_len r 7; have := optK_len r 8; simp only [List.length_append, List.length_nil]; omega⟩
               clear hb ho
               clear t0 t1 t2 t3 t4 t5 t6 t7 t8 t9 t10 t11
               have t0 : W2.cell? ⟨w.heap.size, 0, none⟩ = some (.int .i64 r.freq) := CELL.out W2 P2.out.bel 0 _ rfl
               have t1 : W2.cell? ⟨w.heap.size, 1, none⟩ = some (.int .i64 r.intv) := CELL.out W2 P2.out.bel 1 _ rfl
               have t2 : W2.cell? ⟨w.heap.size, 2, none⟩ = some (.int .i64 0) := (CELL.out W2 P2.out.bel 2 (.int .i64 r.cnt) rfl).trans (by rw [E2.out])
               have t3 : W2.cell? ⟨w.heap.size, 3, none⟩ = some (.bool true) := (CELL.out W2 P2.out.bel 3 (.bool r.has) rfl).trans (by rw [HH.out])
               have t4 : W2.cell? ⟨w.heap.size, 4, none⟩ = some (.int .i64 r.unt.secs) := CELL.out W2 P2.out.bel 4 _ rfl
               have t5 : W2.cell? ⟨w.heap.size, 5, none⟩ = some (.bool r.unt.utc) := CELL.out W2 P2.out.bel 5 _ rfl
               have t6 : W2.cell? ⟨w.heap.size, 6, none⟩ = some (.bool r.unt.date) := CELL.out W2 P2.out.bel 6 _ rfl
               have t7 : W2.cell? ⟨w.heap.size, 7, none⟩ = some (.slice a1 r.mon.length c1) := CELL.out W2 P2.out.bel 7 _ rfl
               have t8 : W2.cell? ⟨w.heap.size, 8, none⟩ = some (.slice a2 r.md.length c2) := CELL.out W2 P2.out.bel 8 _ rfl
               have t9 : W2.cell? ⟨w.heap.size, 9, none⟩ = some (.slice a3 r.dys.length c3) := CELL.out W2 P2.out.bel 9 _ rfl
               have t10 : W2.cell? ⟨w.heap.size, 10, none⟩ = some (.slice a4 r.pos.length c4) := CELL.out W2 P2.out.bel 10 _ rfl
               have t11 : W2.cell? ⟨w.heap.size, 11, none⟩ = some (.int .i64 0) := (CELL.out W2 P2.out.bel 11 (.int .i64 r.wk) rfl).trans (by rw [E8.out]))
            | (go_at_call 34; ((with_reducible refine (prn1 r hF HX1.out w W2 x2 _ _ HV.out (BW.out W2 P2.out.bel) P2.out.bel.size (by have := P2.out.len; omega) P2.out.own).mono ?_)); rintro e W3 ⟨x3, rfl, ho, hb⟩
               have P3 : Hid (PSt (w.alloc (.cells #[.int .i64 r.freq, .int .i64 r.intv, .int .i64 r.cnt, .bool r.has, .int .i64 r.unt.secs, .bool r.unt.utc, .bool r.unt.date, .slice a1 r.mon.length c1, .slice a2 r.md.length c2, .slice a3 r.dys.length c3, .slice a4 r.pos.length c4, .int .i64 r.wk] 27)) W3 x3 (([] ++ optK r 0) ++ optK r 1)) := Lib.hid ⟨P2.out.bel.trans ((((Below.refl _ W2).alloc (Nat.le_refl _) _).mono P2.out.bel.size).trans hb), ho, by have := optK_len r 0; have := optK_len r 1; have := optK_len r 2; have := optK_len r 3; have := optK_len r 4; have := optK_len r 5; have := optK_len r 6; have := optK_len r 7; have := optK_len r 8; simp only [List.length_append, List.length_nil]; omega⟩
               clear hb ho
               clear t0 t1 t2 t3 t4 t5 t6 t7 t8 t9 t10 t11
               have t0 : W3.cell? ⟨w.heap.size, 0, none⟩ = some (.int .i64 r.freq) := CELL.out W3 P3.out.bel 0 _ rfl
               have t1 : W3.cell? ⟨w.heap.size, 1, none⟩ = some (.int .i64 r.intv) := CELL.out W3 P3.out.bel 1 _ rfl
               have t2 : W3.cell? ⟨w.heap.size, 2, none⟩ = some (.int .i64 0) := (CELL.out W3 P3.out.bel 2 (.int .i64 r.cnt) rfl).trans (by rw [E2.out])
               have t3 : W3.cell? ⟨w.heap.size, 3, none⟩ = some (.bool true) := (CELL.out W3 P3.out.bel 3 (.bool r.has) rfl).trans (by rw [HH.out])
               have t4 : W3.cell? ⟨w.heap.size, 4, none⟩ = some (.int .i64 r.unt.secs) := CELL.out W3 P3.out.bel 4 _ rfl
               have t5 : W3.cell? ⟨w.heap.size, 5, none⟩ = some (.bool r.unt.utc) := CELL.out W3 P3.out.bel 5 _ rfl
               have t6 : W3.cell? ⟨w.heap.size, 6, none⟩ = some (.bool r.unt.date) := CELL.out W3 P3.out.bel 6 _ rfl
               have t7 : W3.cell? ⟨w.heap.size, 7, none⟩ = some (.slice a1 r.mon.length c1) := CELL.out W3 P3.out.bel 7 _ rfl
               have t8 : W3.cell? ⟨w.heap.size, 8, none⟩ = some (.slice a2 r.md.length c2) := CELL.out W3 P3.out.bel 8 _ rfl
               have t9 : W3.cell? ⟨w.heap.size, 9, none⟩ = some (.slice a3 r.dys.length c3) := CELL.out W3 P3.out.bel 9 _ rfl
               have t10 : W3.cell? ⟨w.heap.size, 10, none⟩ = some (.slice a4 r.pos.length c4) := CELL.out W3 P3.out.bel 10 _ rfl
               have t11 : W3.cell? ⟨w.heap.size, 11, none⟩ = some (.int .i64 0) := (CELL.out W3 P3.out.bel 11 (.int .i64 r.wk) rfl).trans (by rw [E8.out]))
            | (go_at_call 37; ((with_reducible refine (prn3 r hF HX3.out HU.out w W3 x3 _ _ HV.out (BW.out W3 P3.out.bel) P3.out.bel.size (by have := P3.out.len; omega) P3.out.own).mono ?_)); rintro e W4 ⟨x4, rfl, ho, hb⟩
               have P4 : Hid (PSt (w.alloc (.cells #[.int .i64 r.freq, .int .i64 r.intv, .int .i64 r.cnt, .bool r.has, .int .i64 r.unt.secs, .bool r.unt.utc, .bool r.unt.date, .slice a1 r.mon.length c1, .slice a2 r.md.length c2, .slice a3 r.dys.length c3, .slice a4 r.pos.length c4, .int .i64 r.wk] 27)) W4 x4 ((([] ++ optK r 0) ++ optK r 1) ++ optK r 3)) := Lib.hid ⟨P3.out.bel.trans ((((Below.refl _ W3).alloc (Nat.le_refl _) _).mono P3.out.bel.size).trans hb), ho, by have := optK_len r 0; have := optK_len r 1; have := optK_len r 2; have := optK_len r 3; have := optK_len r 4; have := optK_len r 5; have := optK_len r 6; have := optK_len r 7; have := optK_len r 8; simp only [List.length_append, List.length_nil]; omega⟩
               clear hb ho
               clear t0 t1 t2 t3 t4 t5 t6 t7 t8 t9 t10 t11
               have t0 : W4.cell? ⟨w.heap.size, 0, none⟩ = some (.int .i64 r.freq) := CELL.out W4 P4.out.bel 0 _ rfl
               have t1 : W4.cell? ⟨w.heap.size, 1, none⟩ = some (.int .i64 r.intv) := CELL.out W4 P4.out.bel 1 _ rfl
               have t2 : W4.cell? ⟨w.heap.size, 2, none⟩ = some (.int .i64 0) := (CELL.out W4 P4.out.bel 2 (.int .i64 r.cnt) rfl).trans (by rw [E2.out])
               have t3 : W4.cell? ⟨w.heap.size, 3, none⟩ = some (.bool true) := (CELL.out W4 P4.out.bel 3 (.bool r.has) rfl).trans (by rw [HH.out])
               have t4 : W4.cell? ⟨w.heap.size, 4, none⟩ = some (.int .i64 r.unt.secs) := CELL.out W4 P4.out.bel 4 _ rfl
               have t5 : W4.cell? ⟨w.heap.size, 5, none⟩ = some (.bool r.unt.utc) := CELL.out W4 P4.out.bel 5 _ rfl
               have t6 : W4.cell? ⟨w.heap.size, 6, none⟩ = some (.bool r.unt.date) := CELL.out W4 P4.out.bel 6 _ rfl
               have t7 : W4.cell? ⟨w.heap.size, 7, none⟩ = some (.slice a1 r.mon.length c1) := CELL.out W4 P4.out.bel 7 _ rfl
               have t8 : W4.cell? ⟨w.heap.size, 8, none⟩ = some (.slice a2 r.md.length c2) := CELL.out W4 P4.out.bel 8 _ rfl
               have t9 : W4.cell? ⟨w.heap.size, 9, none⟩ = some (.slice a3 r.dys.length c3) := CELL.out W4 P4.out.bel 9 _ rfl
               have t10 : W4.cell? ⟨w.heap.size, 10, none⟩ = some (.slice a4 r.pos.length c4) := CELL.out W4 P4.out.bel 10 _ rfl
               have t11 : W4.cell? ⟨w.heap.size, 11, none⟩ = some (.int .i64 0) := (CELL.out W4 P4.out.bel 11 (.int .i64 r.wk) rfl).trans (by rw [E8.out]))
            | (go_at_call 34; ((with_reducible refine (prn4 r hF w W4 x4 (.slice a1 r.mon.length c1) _ _ HV.out (BW.out W4 P4.out.bel) P4.out.bel.size (by have := P4.out.len; omega) P4.out.own (HS.out.s1.step (BW.out W4 P4.out.bel))).mono ?_)); rintro e W5 ⟨x5, rfl, ho, hb⟩
               have P5 : Hid (PSt (w.alloc (.cells #[.int .i64 r.freq, .int .i64 r.intv, .int .i64 r.cnt, .bool r.has, .int .i64 r.unt.secs, .bool r.unt.utc, .bool r.unt.date, .slice a1 r.mon.length c1, .slice a2 r.md.length c2, .slice a3 r.dys.length c3, .slice a4 r.pos.length c4, .int .i64 r.wk] 27)) W5 x5 (((([] ++ optK r 0) ++ optK r 1) ++ optK r 3) ++ optK r 4)) := Lib.hid ⟨P4.out.bel.trans hb, ho, by have := optK_len r 0; have := optK_len r 1; have := optK_len r 2; have := optK_len r 3; have := optK_len r 4; have := optK_len r 5; have := optK_len r 6; have := optK_len r 7; have := optK_len r 8; simp only [List.length_append, List.length_nil]; omega⟩
               clear hb ho
               clear t0 t1 t2 t3 t4 t5 t6 t7 t8 t9 t10 t11
               have t0 : W5.cell? ⟨w.heap.size, 0, none⟩ = some (.int .i64 r.freq) := CELL.out W5 P5.out.bel 0 _ rfl
               have t1 : W5.cell? ⟨w.heap.size, 1, none⟩ = some (.int .i64 r.intv) := CELL.out W5 P5.out.bel 1 _ rfl
               have t2 : W5.cell? ⟨w.heap.size, 2, none⟩ = some (.int .i64 0) := (CELL.out W5 P5.out.bel 2 (.int .i64 r.cnt) rfl).trans (by rw [E2.out])
               have t3 : W5.cell? ⟨w.heap.size, 3, none⟩ = some (.bool true) := (CELL.out W5 P5.out.bel 3 (.bool r.has) rfl).trans (by rw [HH.out])
               have t4 : W5.cell? ⟨w.heap.size, 4, none⟩ = some (.int .i64 r.unt.secs) := CELL.out W5 P5.out.bel 4 _ rfl
               have t5 : W5.cell? ⟨w.heap.size, 5, none⟩ = some (.bool r.unt.utc) := CELL.out W5 P5.out.bel 5 _ rfl
               have t6 : W5.cell? ⟨w.heap.size, 6, none⟩ = some (.bool r.unt.date) := CELL.out W5 P5.out.bel 6 _ rfl
               have t7 : W5.cell? ⟨w.heap.size, 7, none⟩ = some (.slice a1 r.mon.length c1) := CELL.out W5 P5.out.bel 7 _ rfl
               have t8 : W5.cell? ⟨w.heap.size, 8, none⟩ = some (.slice a2 r.md.length c2) := CELL.out W5 P5.out.bel 8 _ rfl
               have t9 : W5.cell? ⟨w.heap.size, 9, none⟩ = some (.slice a3 r.dys.length c3) := CELL.out W5 P5.out.bel 9 _ rfl
               have t10 : W5.cell? ⟨w.heap.size, 10, none⟩ = some (.slice a4 r.pos.length c4) := CELL.out W5 P5.out.bel 10 _ rfl
               have t11 : W5.cell? ⟨w.heap.size, 11, none⟩ = some (.int .i64 0) := (CELL.out W5 P5.out.bel 11 (.int .i64 r.wk) rfl).trans (by rw [E8.out]))
            | (go_at_call 34; ((with_reducible refine (prn5 r hF w W5 x5 (.slice a2 r.md.length c2) _ _ HV.out (BW.out W5 P5.out.bel) P5.out.bel.size (by have := P5.out.len; omega) P5.out.own (HS.out.s2.step (BW.out W5 P5.out.bel))).mono ?_)); rintro e W6 ⟨x6, rfl, ho, hb⟩
               have P6 : Hid (PSt (w.alloc (.cells #[.int .i64 r.freq, .int .i64 r.intv, .int .i64 r.cnt, .bool r.has, .int .i64 r.unt.secs, .bool r.unt.utc, .bool r.unt.date, .slice a1 r.mon.length c1, .slice a2 r.md.length c2, .slice a3 r.dys.length c3, .slice a4 r.pos.length c4, .int .i64 r.wk] 27)) W6 x6 ((((([] ++ optK r 0) ++ optK r 1) ++ optK r 3) ++ optK r 4) ++ optK r 5)) := Lib.hid ⟨P5.out.bel.trans hb, ho, by have := optK_len r 0; have := optK_len r 1; have := optK_len r 2; have := optK_len r 3; have := optK_len r 4; have := optK_len r 5; have := optK_len r 6; have := optK_len r 7; have := optK_len r 8; simp only [List.length_append, List.length_nil]; omega⟩
               clear hb ho
               clear t0 t1 t2 t3 t4 t5 t6 t7 t8 t9 t10 t11
               have t0 : W6.cell? ⟨w.heap.size, 0, none⟩ = some (.int .i64 r.freq) := CELL.out W6 P6.out.bel 0 _ rfl
               have t1 : W6.cell? ⟨w.heap.size, 1, none⟩ = some (.int .i64 r.intv) := CELL.out W6 P6.out.bel 1 _ rfl
               have t2 : W6.cell? ⟨w.heap.size, 2, none⟩ = some (.int .i64 0) := (CELL.out W6 P6.out.bel 2 (.int .i64 r.cnt) rfl).trans (by rw [E2.out])
               have t3 : W6.cell? ⟨w.heap.size, 3, none⟩ = some (.bool true) := (CELL.out W6 P6.out.bel 3 (.bool r.has) rfl).trans (by rw [HH.out])
               have t4 : W6.cell? ⟨w.heap.size, 4, none⟩ = some (.int .i64 r.unt.secs) := CELL.out W6 P6.out.bel 4 _ rfl
               have t5 : W6.cell? ⟨w.heap.size, 5, none⟩ = some (.bool r.unt.utc) := CELL.out W6 P6.out.bel 5 _ rfl
               have t6 : W6.cell? ⟨w.heap.size, 6, none⟩ = some (.bool r.unt.date) := CELL.out W6 P6.out.bel 6 _ rfl
               have t7 : W6.cell? ⟨w.heap.size, 7, none⟩ = some (.slice a1 r.mon.length c1) := CELL.out W6 P6.out.bel 7 _ rfl
               have t8 : W6.cell? ⟨w.heap.size, 8, none⟩ = some (.slice a2 r.md.length c2) := CELL.out W6 P6.out.bel 8 _ rfl
               have t9 : W6.cell? ⟨w.heap.size, 9, none⟩ = some (.slice a3 r.dys.length c3) := CELL.out W6 P6.out.bel 9 _ rfl
               have t10 : W6.cell? ⟨w.heap.size, 10, none⟩ = some (.slice a4 r.pos.length c4) := CELL.out W6 P6.out.bel 10 _ rfl
               have t11 : W6.cell? ⟨w.heap.size, 11, none⟩ = some (.int .i64 0) := (CELL.out W6 P6.out.bel 11 (.int .i64 r.wk) rfl).trans (by rw [E8.out]))
            | (go_at_call 39; ((with_reducible refine (prn6 r hF w W6 x6 (.slice a3 r.dys.length c3) _ _ HV.out (BW.out W6 P6.out.bel) P6.out.bel.size (by have := P6.out.len; omega) P6.out.own (HS.out.s3.step (BW.out W6 P6.out.bel))).mono ?_)); rintro e W7 ⟨x7, rfl, ho, hb⟩
               have P7 : Hid (PSt (w.alloc (.cells #[.int .i64 r.freq, .int .i64 r.intv, .int .i64 r.cnt, .bool r.has, .int .i64 r.unt.secs, .bool r.unt.utc, .bool r.unt.date, .slice a1 r.mon.length c1, .slice a2 r.md.length c2, .slice a3 r.dys.length c3, .slice a4 r.pos.length c4, .int .i64 r.wk] 27)) W7 x7 (((((([] ++ optK r 0) ++ optK r 1) ++ optK r 3) ++ optK r 4) ++ optK r 5) ++ optK r 6)) := Lib.hid ⟨P6.out.bel.trans hb, ho, by have := optK_len r 0; have := optK_len r 1; have := optK_len r 2; have := optK_len r 3; have := optK_len r 4; have := optK_len r 5; have := optK_len r 6; have := optK_len r 7; have := optK_len r 8; simp only [List.length_append, List.length_nil]; omega⟩
               clear hb ho
               clear t0 t1 t2 t3 t4 t5 t6 t7 t8 t9 t10 t11
               have t0 : W7.cell? ⟨w.heap.size, 0, none⟩ = some (.int .i64 r.freq) := CELL.out W7 P7.out.bel 0 _ rfl
               have t1 : W7.cell? ⟨w.heap.size, 1, none⟩ = some (.int .i64 r.intv) := CELL.out W7 P7.out.bel 1 _ rfl
               have t2 : W7.cell? ⟨w.heap.size, 2, none⟩ = some (.int .i64 0) := (CELL.out W7 P7.out.bel 2 (.int .i64 r.cnt) rfl).trans (by rw [E2.out])
               have t3 : W7.cell? ⟨w.heap.size, 3, none⟩ = some (.bool true) := (CELL.out W7 P7.out.bel 3 (.bool r.has) rfl).trans (by rw [HH.out])
               have t4 : W7.cell? ⟨w.heap.size, 4, none⟩ = some (.int .i64 r.unt.secs) := CELL.out W7 P7.out.bel 4 _ rfl
               have t5 : W7.cell? ⟨w.heap.size, 5, none⟩ = some (.bool r.unt.utc) := CELL.out W7 P7.out.bel 5 _ rfl
               have t6 : W7.cell? ⟨w.heap.size, 6, none⟩ = some (.bool r.unt.date) := CELL.out W7 P7.out.bel 6 _ rfl
               have t7 : W7.cell? ⟨w.heap.size, 7, none⟩ = some (.slice a1 r.mon.length c1) := CELL.out W7 P7.out.bel 7 _ rfl
               have t8 : W7.cell? ⟨w.heap.size, 8, none⟩ = some (.slice a2 r.md.length c2) := CELL.out W7 P7.out.bel 8 _ rfl
               have t9 : W7.cell? ⟨w.heap.size, 9, none⟩ = some (.slice a3 r.dys.length c3) := CELL.out W7 P7.out.bel 9 _ rfl
               have t10 : W7.cell? ⟨w.heap.size, 10, none⟩ = some (.slice a4 r.pos.length c4) := CELL.out W7 P7.out.bel 10 _ rfl
               have t11 : W7.cell? ⟨w.heap.size, 11, none⟩ = some (.int .i64 0) := (CELL.out W7 P7.out.bel 11 (.int .i64 r.wk) rfl).trans (by rw [E8.out]))
            | (go_at_call 34; ((with_reducible refine (prn7 r hF w W7 x7 (.slice a4 r.pos.length c4) _ _ HV.out (BW.out W7 P7.out.bel) P7.out.bel.size (by have := P7.out.len; omega) P7.out.own (HS.out.s4.step (BW.out W7 P7.out.bel))).mono ?_)); rintro e W8 ⟨x8, rfl, ho, hb⟩
               have P8 : Hid (PSt (w.alloc (.cells #[.int .i64 r.freq, .int .i64 r.intv, .int .i64 r.cnt, .bool r.has, .int .i64 r.unt.secs, .bool r.unt.utc, .bool r.unt.date, .slice a1 r.mon.length c1, .slice a2 r.md.length c2, .slice a3 r.dys.length c3, .slice a4 r.pos.length c4, .int .i64 r.wk] 27)) W8 x8 ((((((([] ++ optK r 0) ++ optK r 1) ++ optK r 3) ++ optK r 4) ++ optK r 5) ++ optK r 6) ++ optK r 7)) := Lib.hid ⟨P7.out.bel.trans hb, ho, by have := optK_len r 0; have := optK_len r 1; have := optK_len r 2; have := optK_len r 3; have := optK_len r 4; have := optK_len r 5; have := optK_len r 6; have := optK_len r 7; have := optK_len r 8; simp only [List.length_append, List.length_nil]; omega⟩
               clear hb ho
               clear t0 t1 t2 t3 t4 t5 t6 t7 t8 t9 t10 t11
               have t0 : W8.cell? ⟨w.heap.size, 0, none⟩ = some (.int .i64 r.freq) := CELL.out W8 P8.out.bel 0 _ rfl
               have t1 : W8.cell? ⟨w.heap.size, 1, none⟩ = some (.int .i64 r.intv) := CELL.out W8 P8.out.bel 1 _ rfl
               have t2 : W8.cell? ⟨w.heap.size, 2, none⟩ = some (.int .i64 0) := (CELL.out W8 P8.out.bel 2 (.int .i64 r.cnt) rfl).trans (by rw [E2.out])
               have t3 : W8.cell? ⟨w.heap.size, 3, none⟩ = some (.bool true) := (CELL.out W8 P8.out.bel 3 (.bool r.has) rfl).trans (by rw [HH.out])
               have t4 : W8.cell? ⟨w.heap.size, 4, none⟩ = some (.int .i64 r.unt.secs) := CELL.out W8 P8.out.bel 4 _ rfl
               have t5 : W8.cell? ⟨w.heap.size, 5, none⟩ = some (.bool r.unt.utc) := CELL.out W8 P8.out.bel 5 _ rfl
               have t6 : W8.cell? ⟨w.heap.size, 6, none⟩ = some (.bool r.unt.date) := CELL.out W8 P8.out.bel 6 _ rfl
               have t7 : W8.cell? ⟨w.heap.size, 7, none⟩ = some (.slice a1 r.mon.length c1) := CELL.out W8 P8.out.bel 7 _ rfl
               have t8 : W8.cell? ⟨w.heap.size, 8, none⟩ = some (.slice a2 r.md.length c2) := CELL.out W8 P8.out.bel 8 _ rfl
               have t9 : W8.cell? ⟨w.heap.size, 9, none⟩ = some (.slice a3 r.dys.length c3) := CELL.out W8 P8.out.bel 9 _ rfl
               have t10 : W8.cell? ⟨w.heap.size, 10, none⟩ = some (.slice a4 r.pos.length c4) := CELL.out W8 P8.out.bel 10 _ rfl
               have t11 : W8.cell? ⟨w.heap.size, 11, none⟩ = some (.int .i64 0) := (CELL.out W8 P8.out.bel 11 (.int .i64 r.wk) rfl).trans (by rw [E8.out]))
            | (go_at_call 42; refine (joinP P8.out (by rw [← HPS.out]; exact partsV_ne r) (by rw [← HPS.out]; exact parts_max hF)).mono ?_; rintro e W9 ⟨rfl, hb⟩; have HB9 := Lib.hid (BW.out _ (P8.out.bel.trans (hb.mono P8.out.bel.size))); clear hb))
          go_ret
          exact ⟨by rw [HP.out, HPS.out]; first | rfl | simp, HB9.out⟩
        · have hx8 := no8
          rw [no8] at b8
          clear no8
          have HPS : Hid (partsV r = (((((((([] ++ optK r 0) ++ optK r 1) ++ optK r 3) ++ optK r 4) ++ optK r 5) ++ optK r 6) ++ optK r 7) ++ optK r 8)) := Lib.hid (by
            rw [partsV_is]
            have e2 : optK r 2 = [] := by unfold optK; rw [if_neg (by rw [no2]; decide)]
            rw [e2]
            simp)
          have HX1 := Lib.hid hx1
          have HX3 := Lib.hid hx3
          have HX8 := Lib.hid hx8
          have HU := Lib.hid hu
          clear hu no2 hx1 hx3 hx8
          go_enter Tryz.func13, Tryz.ntmps13
          go_wp2_with (first
            | (go_at_call 11; refine cF.mono ?_; rintro e W1 ⟨rfl, hb⟩; clear cF
               have P1 : Hid (PSt (w.alloc (.cells #[.int .i64 r.freq, .int .i64 r.intv, .int .i64 r.cnt, .bool r.has, .int .i64 r.unt.secs, .bool r.unt.utc, .bool r.unt.date, .slice a1 r.mon.length c1, .slice a2 r.md.length c2, .slice a3 r.dys.length c3, .slice a4 r.pos.length c4, .int .i64 r.wk] 27)) W1 (.slice none 0 0) []) := Lib.hid ⟨hb, World.ownsRow_nil _ _ _ _, by simp⟩
               clear hb
               have t0 : W1.cell? ⟨w.heap.size, 0, none⟩ = some (.int .i64 r.freq) := CELL.out W1 P1.out.bel 0 _ rfl
               have t1 : W1.cell? ⟨w.heap.size, 1, none⟩ = some (.int .i64 r.intv) := CELL.out W1 P1.out.bel 1 _ rfl
               have t2 : W1.cell? ⟨w.heap.size, 2, none⟩ = some (.int .i64 0) := (CELL.out W1 P1.out.bel 2 (.int .i64 r.cnt) rfl).trans (by rw [E2.out])
               have t3 : W1.cell? ⟨w.heap.size, 3, none⟩ = some (.bool true) := (CELL.out W1 P1.out.bel 3 (.bool r.has) rfl).trans (by rw [HH.out])
               have t4 : W1.cell? ⟨w.heap.size, 4, none⟩ = some (.int .i64 r.unt.secs) := CELL.out W1 P1.out.bel 4 _ rfl
               have t5 : W1.cell? ⟨w.heap.size, 5, none⟩ = some (.bool r.unt.utc) := CELL.out W1 P1.out.bel 5 _ rfl
               have t6 : W1.cell? ⟨w.heap.size, 6, none⟩ = some (.bool r.unt.date) := CELL.out W1 P1.out.bel 6 _ rfl
               have t7 : W1.cell? ⟨w.heap.size, 7, none⟩ = some (.slice a1 r.mon.length c1) := CELL.out W1 P1.out.bel 7 _ rfl
               have t8 : W1.cell? ⟨w.heap.size, 8, none⟩ = some (.slice a2 r.md.length c2) := CELL.out W1 P1.out.bel 8 _ rfl
               have t9 : W1.cell? ⟨w.heap.size, 9, none⟩ = some (.slice a3 r.dys.length c3) := CELL.out W1 P1.out.bel 9 _ rfl
               have t10 : W1.cell? ⟨w.heap.size, 10, none⟩ = some (.slice a4 r.pos.length c4) := CELL.out W1 P1.out.bel 10 _ rfl
               have t11 : W1.cell? ⟨w.heap.size, 11, none⟩ = some (.int .i64 r.wk) := CELL.out W1 P1.out.bel 11 _ rfl)
            | (go_at_call 34; ((with_reducible refine (prn0 r hF w W1 (.slice none 0 0) _ _ HV.out (BW.out W1 P1.out.bel) P1.out.bel.size (by have := P1.out.len; omega) P1.out.own).mono ?_)); rintro e W2 ⟨x2, rfl, ho, hb⟩
               have P2 : Hid (PSt (w.alloc (.cells #[.int .i64 r.freq, .int .i64 r.intv, .int .i64 r.cnt, .bool r.has, .int .i64 r.unt.secs, .bool r.unt.utc, .bool r.unt.date, .slice a1 r.mon.length c1, .slice a2 r.md.length c2, .slice a3 r.dys.length c3, .slice a4 r.pos.length c4, .int .i64 r.wk] 27)) W2 x2 ([] ++ optK r 0)) := Lib.hid ⟨P1.out.bel.trans ((((Below.refl _ W1).alloc (Nat.le_refl _) _).mono P1.out.bel.size).trans hb), ho, by have := optK_len r 0; have := optK_len r 1; have := optK_len r 2; have := optK_len r 3; have := optK_len r 4; have := optK_len r 5; have := optK_len r 6; have := optK_len r 7; have := optK_len r 8; simp only [List.length_append, List.length_nil]; omega⟩
               clear hb ho
               clear t0 t1 t2 t3 t4 t5 t6 t7 t8 t9 t10 t11
               have t0 : W2.cell? ⟨w.heap.size, 0, none⟩ = some (.int .i64 r.freq) := CELL.out W2 P2.out.bel 0 _ rfl
               have t1 : W2.cell? ⟨w.heap.size, 1, none⟩ = some (.int .i64 r.intv) := CELL.out W2 P2.out.bel 1 _ rfl
               have t2 : W2.cell? ⟨w.heap.size, 2, none⟩ = some (.int .i64 0) := (CELL.out W2 P2.out.bel 2 (.int .i64 r.cnt) rfl).trans (by rw [E2.out])
               have t3 : W2.cell? ⟨w.heap.size, 3, none⟩ = some (.bool true) := (CELL.out W2 P2.out.bel 3 (.bool r.has) rfl).trans (by rw [HH.out])
               have t4 : W2.cell? ⟨w.heap.size, 4, none⟩ = some (.int .i64 r.unt.secs) := CELL.out W2 P2.out.bel 4 _ rfl
               have t5 : W2.cell? ⟨w.heap.size, 5, none⟩ = some (.bool r.unt.utc) := CELL.out W2 P2.out.bel 5 _ rfl
               have t6 : W2.cell? ⟨w.heap.size, 6, none⟩ = some (.bool r.unt.date) := CELL.out W2 P2.out.bel 6 _ rfl
               have t7 : W2.cell? ⟨w.heap.size, 7, none⟩ = some (.slice a1 r.mon.length c1) := CELL.out W2 P2.out.bel 7 _ rfl
               have t8 : W2.cell? ⟨w.heap.size, 8, none⟩ = some (.slice a2 r.md.length c2) := CELL.out W2 P2.out.bel 8 _ rfl
               have t9 : W2.cell? ⟨w.heap.size, 9, none⟩ = some (.slice a3 r.dys.length c3) := CELL.out W2 P2.out.bel 9 _ rfl
               have t10 : W2.cell? ⟨w.heap.size, 10, none⟩ = some (.slice a4 r.pos.length c4) := CELL.out W2 P2.out.bel 10 _ rfl
               have t11 : W2.cell? ⟨w.heap.size, 11, none⟩ = some (.int .i64 r.wk) := CELL.out W2 P2.out.bel 11 _ rfl)
            | (go_at_call 34; ((with_reducible refine (prn1 r hF HX1.out w W2 x2 _ _ HV.out (BW.out W2 P2.out.bel) P2.out.bel.size (by have := P2.out.len; omega) P2.out.own).mono ?_)); rintro e W3 ⟨x3, rfl, ho, hb⟩
               have P3 : Hid (PSt (w.alloc (.cells #[.int .i64 r.freq, .int .i64 r.intv, .int .i64 r.cnt, .bool r.has, .int .i64 r.unt.secs, .bool r.unt.utc, .bool r.unt.date, .slice a1 r.mon.length c1, .slice a2 r.md.length c2, .slice a3 r.dys.length c3, .slice a4 r.pos.length c4, .int .i64 r.wk] 27)) W3 x3 (([] ++ optK r 0) ++ optK r 1)) := Lib.hid ⟨P2.out.bel.trans ((((Below.refl _ W2).alloc (Nat.le_refl _) _).mono P2.out.bel.size).trans hb), ho, by have := optK_len r 0; have := optK_len r 1; have := optK_len r 2; have := optK_len r 3; have := optK_len r 4; have := optK_len r 5; have := optK_len r 6; have := optK_len r 7; have := optK_len r 8; simp only [List.length_append, List.length_nil]; omega⟩
               clear hb ho
               clear t0 t1 t2 t3 t4 t5 t6 t7 t8 t9 t10 t11
               have t0 : W3.cell? ⟨w.heap.size, 0, none⟩ = some (.int .i64 r.freq) := CELL.out W3 P3.out.bel 0 _ rfl
               have t1 : W3.cell? ⟨w.heap.size, 1, none⟩ = some (.int .i64 r.intv) := CELL.out W3 P3.out.bel 1 _ rfl
               have t2 : W3.cell? ⟨w.heap.size, 2, none⟩ = some (.int .i64 0) := (CELL.out W3 P3.out.bel 2 (.int .i64 r.cnt) rfl).trans (by rw [E2.out])
               have t3 : W3.cell? ⟨w.heap.size, 3, none⟩ = some (.bool true) := (CELL.out W3 P3.out.bel 3 (.bool r.has) rfl).trans (by rw [HH.out])
               have t4 : W3.cell? ⟨w.heap.size, 4, none⟩ = some (.int .i64 r.unt.secs) := CELL.out W3 P3.out.bel 4 _ rfl
               have t5 : W3.cell? ⟨w.heap.size, 5, none⟩ = some (.bool r.unt.utc) := CELL.out W3 P3.out.bel 5 _ rfl
               have t6 : W3.cell? ⟨w.heap.size, 6, none⟩ = some (.bool r.unt.date) := CELL.out W3 P3.out.bel 6 _ rfl
               have t7 : W3.cell? ⟨w.heap.size, 7, none⟩ = some (.slice a1 r.mon.length c1) := CELL.out W3 P3.out.bel 7 _ rfl
               have t8 : W3.cell? ⟨w.heap.size, 8, none⟩ = some (.slice a2 r.md.length c2) := CELL.out W3 P3.out.bel 8 _ rfl
               have t9 : W3.cell? ⟨w.heap.size, 9, none⟩ = some (.slice a3 r.dys.length c3) := CELL.out W3 P3.out.bel 9 _ rfl
               have t10 : W3.cell? ⟨w.heap.size, 10, none⟩ = some (.slice a4 r.pos.length c4) := CELL.out W3 P3.out.bel 10 _ rfl
               have t11 : W3.cell? ⟨w.heap.size, 11, none⟩ = some (.int .i64 r.wk) := CELL.out W3 P3.out.bel 11 _ rfl)
            | (go_at_call 37; ((with_reducible refine (prn3 r hF HX3.out HU.out w W3 x3 _ _ HV.out (BW.out W3 P3.out.bel) P3.out.bel.size (by have := P3.out.len; omega) P3.out.own).mono ?_)); rintro e W4 ⟨x4, rfl, ho, hb⟩
               have P4 : Hid (PSt (w.alloc (.cells #[.int .i64 r.freq, .int .i64 r.intv, .int .i64 r.cnt, .bool r.has, .int .i64 r.unt.secs, .bool r.unt.utc, .bool r.unt.date, .slice a1 r.mon.length c1, .slice a2 r.md.length c2, .slice a3 r.dys.length c3, .slice a4 r.pos.length c4, .int .i64 r.wk] 27)) W4 x4 ((([] ++ optK r 0) ++ optK r 1) ++ optK r 3)) := Lib.hid ⟨P3.out.bel.trans ((((Below.refl _ W3).alloc (Nat.le_refl _) _).mono P3.out.bel.size).trans hb), ho, by have := optK_len r 0; have := optK_len r 1; have := optK_len r 2; have := optK_len r 3; have := optK_len r 4; have := optK_len r 5; have := optK_len r 6; have := optK_len r 7; have := optK_len r 8; simp only [List.length_append, List.length_nil]; omega⟩
               clear hb ho
               clear t0 t1 t2 t3 t4 t5 t6 t7 t8 t9 t10 t11
               have t0 : W4.cell? ⟨w.heap.size, 0, none⟩ = some (.int .i64 r.freq) := CELL.out W4 P4.out.bel 0 _ rfl
               have t1 : W4.cell? ⟨w.heap.size, 1, none⟩ = some (.int .i64 r.intv) := CELL.out W4 P4.out.bel 1 _ rfl
               have t2 : W4.cell? ⟨w.heap.size, 2, none⟩ = some (.int .i64 0) := (CELL.out W4 P4.out.bel 2 (.int .i64 r.cnt) rfl).trans (by rw [E2.out])
               have t3 : W4.cell? ⟨w.heap.size, 3, none⟩ = some (.bool true) := (CELL.out W4 P4.out.bel 3 (.bool r.has) rfl).trans (by rw [HH.out])
               have t4 : W4.cell? ⟨w.heap.size, 4, none⟩ = some (.int .i64 r.unt.secs) := CELL.out W4 P4.out.bel 4 _ rfl
               have t5 : W4.cell? ⟨w.heap.size, 5, none⟩ = some (.bool r.unt.utc) := CELL.out W4 P4.out.bel 5 _ rfl
               have t6 : W4.cell? ⟨w.heap.size, 6, none⟩ = some (.bool r.unt.date) := CELL.out W4 P4.out.bel 6 _ rfl
               have t7 : W4.cell? ⟨w.heap.size, 7, none⟩ = some (.slice a1 r.mon.length c1) := CELL.out W4 P4.out.bel 7 _ rfl
               have t8 : W4.cell? ⟨w.heap.size, 8, none⟩ = some (.slice a2 r.md.length c2) := CELL.out W4 P4.out.bel 8 _ rfl
               have t9 : W4.cell? ⟨w.heap.size, 9, none⟩ = some (.slice a3 r.dys.length c3) := CELL.out W4 P4.out.bel 9 _ rfl
               have t10 : W4.cell? ⟨w.heap.size, 10, none⟩ = some (.slice a4 r.pos.length c4) := CELL.out W4 P4.out.bel 10 _ rfl
               have t11 : W4.cell? ⟨w.heap.size, 11, none⟩ = some (.int .i64 r.wk) := CELL.out W4 P4.out.bel 11 _ rfl)
            | (go_at_call 34; ((with_reducible refine (prn4 r hF w W4 x4 (.slice a1 r.mon.length c1) _ _ HV.out (BW.out W4 P4.out.bel) P4.out.bel.size (by have := P4.out.len; omega) P4.out.own (HS.out.s1.step (BW.out W4 P4.out.bel))).mono ?_)); rintro e W5 ⟨x5, rfl, ho, hb⟩
               have P5 : Hid (PSt (w.alloc (.cells #[.int .i64 r.freq, .int .i64 r.intv, .int .i64 r.cnt, .bool r.has, .int .i64 r.unt.secs, .bool r.unt.utc, .bool r.unt.date, .slice a1 r.mon.length c1, .slice a2 r.md.length c2, .slice a3 r.dys.length c3, .slice a4 r.pos.length c4, .int .i64 r.wk] 27)) W5 x5 (((([] ++ optK r 0) ++ optK r 1) ++ optK r 3) ++ optK r 4)) := Lib.hid ⟨P4.out.bel.trans hb, ho, by have := optK_len r 0; have := optK_len r 1; have := optK_len r 2; have := optK_len r 3; have := optK_len r 4; have := optK_len r 5; have := optK_len r 6; have := optK_len r 7; have := optK_len r 8; simp only [List.length_append, List.length_nil]; omega⟩
               clear hb ho
               clear t0 t1 t2 t3 t4 t5 t6 t7 t8 t9 t10 t11
               have t0 : W5.cell? ⟨w.heap.size, 0, none⟩ = some (.int .i64 r.freq) := CELL.out W5 P5.out.bel 0 _ rfl
               have t1 : W5.cell? ⟨w.heap.size, 1, none⟩ = some (.int .i64 r.intv) := CELL.out W5 P5.out.bel 1 _ rfl
               have t2 : W5.cell? ⟨w.heap.size, 2, none⟩ = some (.int .i64 0) := (CELL.out W5 P5.out.bel 2 (.int .i64 r.cnt) rfl).trans (by rw [E2.out])
               have t3 : W5.cell? ⟨w.heap.size, 3, none⟩ = some (.bool true) := (CELL.out W5 P5.out.bel 3 (.bool r.has) rfl).trans (by rw [HH.out])
               have t4 : W5.cell? ⟨w.heap.size, 4, none⟩ = some (.int .i64 r.unt.secs) := CELL.out W5 P5.out.bel 4 _ rfl
               have t5 : W5.cell? ⟨w.heap.size, 5, none⟩ = some (.bool r.unt.utc) := CELL.out W5 P5.out.bel 5 _ rfl
               have t6 : W5.cell? ⟨w.heap.size, 6, none⟩ = some (.bool r.unt.date) := CELL.out W5 P5.out.bel 6 _ rfl
               have t7 : W5.cell? ⟨w.heap.size, 7, none⟩ = some (.slice a1 r.mon.length c1) := CELL.out W5 P5.out.bel 7 _ rfl
               have t8 : W5.cell? ⟨w.heap.size, 8, none⟩ = some (.slice a2 r.md.length c2) := CELL.out W5 P5.out.bel 8 _ rfl
               have t9 : W5.cell? ⟨w.heap.size, 9, none⟩ = some (.slice a3 r.dys.length c3) := CELL.out W5 P5.out.bel 9 _ rfl
               have t10 : W5.cell? ⟨w.heap.size, 10, none⟩ = some (.slice a4 r.pos.length c4) := CELL.out W5 P5.out.bel 10 _ rfl
               have t11 : W5.cell? ⟨w.heap.size, 11, none⟩ = some (.int .i64 r.wk) := CELL.out W5 P5.out.bel 11 _ rfl)
            | (go_at_call 34; ((with_reducible refine (prn5 r hF w W5 x5 (.slice a2 r.md.length c2) _ _ HV.out (BW.out W5 P5.out.bel) P5.out.bel.size (by have := P5.out.len; omega) P5.out.own (HS.out.s2.step (BW.out W5 P5.out.bel))).mono ?_)); rintro e W6 ⟨x6, rfl, ho, hb⟩
               have P6 : Hid (PSt (w.alloc (.cells #[.int .i64 r.freq, .int .i64 r.intv, .int .i64 r.cnt, .bool r.has, .int .i64 r.unt.secs, .bool r.unt.utc, .bool r.unt.date, .slice a1 r.mon.length c1, .slice a2 r.md.length c2, .slice a3 r.dys.length c3, .slice a4 r.pos.length c4, .int .i64 r.wk] 27)) W6 x6 ((((([] ++ optK r 0) ++ optK r 1) ++ optK r 3) ++ optK r 4) ++ optK r 5)) := Lib.hid ⟨P5.out.bel.trans hb, ho, by have := optK_len r 0; have := optK_len r 1; have := optK_len r 2; have := optK_len r 3; have := optK_len r 4; have := optK_len r 5; have := optK_len r 6; have := optK_len r 7; have := optK_len r 8; simp only [List.length_append, List.length_nil]; omega⟩
               clear hb ho
               clear t0 t1 t2 t3 t4 t5 t6 t7 t8 t9 t10 t11
               have t0 : W6.cell? ⟨w.heap.size, 0, none⟩ = some (.int .i64 r.freq) := CELL.out W6 P6.out.bel 0 _ rfl
               have t1 : W6.cell? ⟨w.heap.size, 1, none⟩ = some (.int .i64 r.intv) := CELL.out W6 P6.out.bel 1 _ rfl
               have t2 : W6.cell? ⟨w.heap.size, 2, none⟩ = some (.int .i64 0) := (CELL.out W6 P6.out.bel 2 (.int .i64 r.cnt) rfl).trans (by rw [E2.out])
               have t3 : W6.cell? ⟨w.heap.size, 3, none⟩ = some (.bool true) := (CELL.out W6 P6.out.bel 3 (.bool r.has) rfl).trans (by rw [HH.out])
               have t4 : W6.cell? ⟨w.heap.size, 4, none⟩ = some (.int .i64 r.unt.secs) := CELL.out W6 P6.out.bel 4 _ rfl
               have t5 : W6.cell? ⟨w.heap.size, 5, none⟩ = some (.bool r.unt.utc) := CELL.out W6 P6.out.bel 5 _ rfl
               have t6 : W6.cell? ⟨w.heap.size, 6, none⟩ = some (.bool r.unt.date) := CELL.out W6 P6.out.bel 6 _ rfl
               have t7 : W6.cell? ⟨w.heap.size, 7, none⟩ = some (.slice a1 r.mon.length c1) := CELL.out W6 P6.out.bel 7 _ rfl
               have t8 : W6.cell? ⟨w.heap.size, 8, none⟩ = some (.slice a2 r.md.length c2) := CELL.out W6 P6.out.bel 8 _ rfl
               have t9 : W6.cell? ⟨w.heap.size, 9, none⟩ = some (.slice a3 r.dys.length c3) := CELL.out W6 P6.out.bel 9 _ rfl
               have t10 : W6.cell? ⟨w.heap.size, 10, none⟩ = some (.slice a4 r.pos.length c4) := CELL.out W6 P6.out.bel 10 _ rfl
               have t11 : W6.cell? ⟨w.heap.size, 11, none⟩ = some (.int .i64 r.wk) := CELL.out W6 P6.out.bel 11 _ rfl)
            | (go_at_call 39; ((with_reducible refine (prn6 r hF w W6 x6 (.slice a3 r.dys.length c3) _ _ HV.out (BW.out W6 P6.out.bel) P6.out.bel.size (by have := P6.out.len; omega) P6.out.own (HS.out.s3.step (BW.out W6 P6.out.bel))).mono ?_)); rintro e W7 ⟨x7, rfl, ho, hb⟩
               have P7 : Hid (PSt (w.alloc (.cells #[.int .i64 r.freq, .int .i64 r.intv, .int .i64 r.cnt, .bool r.has, .int .i64 r.unt.secs, .bool r.unt.utc, .bool r.unt.date, .slice a1 r.mon.length c1, .slice a2 r.md.length c2, .slice a3 r.dys.length c3, .slice a4 r.pos.length c4, .int .i64 r.wk] 27)) W7 x7 (((((([] ++ optK r 0) ++ optK r 1) ++ optK r 3) ++ optK r 4) ++ optK r 5) ++ optK r 6)) := Lib.hid ⟨P6.out.bel.trans hb, ho, by have := optK_len r 0; have := optK_len r 1; have := optK_len r 2; have := optK_len r 3; have := optK_len r 4; have := optK_len r 5; have := optK_len r 6; have := optK_len r 7; have := optK_len r 8; simp only [List.length_append, List.length_nil]; omega⟩
               clear hb ho
               clear t0 t1 t2 t3 t4 t5 t6 t7 t8 t9 t10 t11
               have t0 : W7.cell? ⟨w.heap.size, 0, none⟩ = some (.int .i64 r.freq) := CELL.out W7 P7.out.bel 0 _ rfl
               have t1 : W7.cell? ⟨w.heap.size, 1, none⟩ = some (.int .i64 r.intv) := CELL.out W7 P7.out.bel 1 _ rfl
               have t2 : W7.cell? ⟨w.heap.size, 2, none⟩ = some (.int .i64 0) := (CELL.out W7 P7.out.bel 2 (.int .i64 r.cnt) rfl).trans (by rw [E2.out])
               have t3 : W7.cell? ⟨w.heap.size, 3, none⟩ = some (.bool true) := (CELL.out W7 P7.out.bel 3 (.bool r.has) rfl).trans (by rw [HH.out])
               have t4 : W7.cell? ⟨w.heap.size, 4, none⟩ = some (.int .i64 r.unt.secs) := CELL.out W7 P7.out.bel 4 _ rfl
               have t5 : W7.cell? ⟨w.heap.size, 5, none⟩ = some (.bool r.unt.utc) := CELL.out W7 P7.out.bel 5 _ rfl
               have t6 : W7.cell? ⟨w.heap.size, 6, none⟩ = some (.bool r.unt.date) := CELL.out W7 P7.out.bel 6 _ rfl
               have t7 : W7.cell? ⟨w.heap.size, 7, none⟩ = some (.slice a1 r.mon.length c1) := CELL.out W7 P7.out.bel 7 _ rfl
               have t8 : W7.cell? ⟨w.heap.size, 8, none⟩ = some (.slice a2 r.md.length c2) := CELL.out W7 P7.out.bel 8 _ rfl
               have t9 : W7.cell? ⟨w.heap.size, 9, none⟩ = some (.slice a3 r.dys.length c3) := CELL.out W7 P7.out.bel 9 _ rfl
               have t10 : W7.cell? ⟨w.heap.size, 10, none⟩ = some (.slice a4 r.pos.length c4) := CELL.out W7 P7.out.bel 10 _ rfl
               have t11 : W7.cell? ⟨w.heap.size, 11, none⟩ = some (.int .i64 r.wk) := CELL.out W7 P7.out.bel 11 _ rfl)
            | (go_at_call 34; ((with_reducible refine (prn7 r hF w W7 x7 (.slice a4 r.pos.length c4) _ _ HV.out (BW.out W7 P7.out.bel) P7.out.bel.size (by have := P7.out.len; omega) P7.out.own (HS.out.s4.step (BW.out W7 P7.out.bel))).mono ?_)); rintro e W8 ⟨x8, rfl, ho, hb⟩
               have P8 : Hid (PSt (w.alloc (.cells #[.int .i64 r.freq, .int .i64 r.intv, .int .i64 r.cnt, .bool r.has, .int .i64 r.unt.secs, .bool r.unt.utc, .bool r.unt.date, .slice a1 r.mon.length c1, .slice a2 r.md.length c2, .slice a3 r.dys.length c3, .slice a4 r.pos.length c4, .int .i64 r.wk] 27)) W8 x8 ((((((([] ++ optK r 0) ++ optK r 1) ++ optK r 3) ++ optK r 4) ++ optK r 5) ++ optK r 6) ++ optK r 7)) := Lib.hid ⟨P7.out.bel.trans hb, ho, by have := optK_len r 0; have := optK_len r 1; have := optK_len r 2; have := optK_len r 3; have := optK_len r 4; have := optK_len r 5; have := optK_len r 6; have := optK_len r 7; have := optK_len r 8; simp only [List.length_append, List.length_nil]; omega⟩
               clear hb ho
               clear t0 t1 t2 t3 t4 t5 t6 t7 t8 t9 t10 t11
               have t0 : W8.cell? ⟨w.heap.size, 0, none⟩ = some (.int .i64 r.freq) := CELL.out W8 P8.out.bel 0 _ rfl
               have t1 : W8.cell? ⟨w.heap.size, 1, none⟩ = some (.int .i64 r.intv) := CELL.out W8 P8.out.bel 1 _ rfl
               have t2 : W8.cell? ⟨w.heap.size, 2, none⟩ = some (.int .i64 0) := (CELL.out W8 P8.out.bel 2 (.int .i64 r.cnt) rfl).trans (by rw [E2.out])
               have t3 : W8.cell? ⟨w.heap.size, 3, none⟩ = some (.bool true) := (CELL.out W8 P8.out.bel 3 (.bool r.has) rfl).trans (by rw [HH.out])
               have t4 : W8.cell? ⟨w.heap.size, 4, none⟩ = some (.int .i64 r.unt.secs) := CELL.out W8 P8.out.bel 4 _ rfl
               have t5 : W8.cell? ⟨w.heap.size, 5, none⟩ = some (.bool r.unt.utc) := CELL.out W8 P8.out.bel 5 _ rfl
               have t6 : W8.cell? ⟨w.heap.size, 6, none⟩ = some (.bool r.unt.date) := CELL.out W8 P8.out.bel 6 _ rfl
               have t7 : W8.cell? ⟨w.heap.size, 7, none⟩ = some (.slice a1 r.mon.length c1) := CELL.out W8 P8.out.bel 7 _ rfl
               have t8 : W8.cell? ⟨w.heap.size, 8, none⟩ = some (.slice a2 r.md.length c2) := CELL.out W8 P8.out.bel 8 _ rfl
               have t9 : W8.cell? ⟨w.heap.size, 9, none⟩ = some (.slice a3 r.dys.length c3) := CELL.out W8 P8.out.bel 9 _ rfl
               have t10 : W8.cell? ⟨w.heap.size, 10, none⟩ = some (.slice a4 r.pos.length c4) := CELL.out W8 P8.out.bel 10 _ rfl
               have t11 : W8.cell? ⟨w.heap.size, 11, none⟩ = some (.int .i64 r.wk) := CELL.out W8 P8.out.bel 11 _ rfl)
            | (go_at_call 34; ((with_reducible refine (prn8 r hF HX8.out w W8 x8 _ _ HV.out (BW.out W8 P8.out.bel) P8.out.bel.size (by have := P8.out.len; omega) P8.out.own).mono ?_)); rintro e W9 ⟨x9, rfl, ho, hb⟩
               have P9 : Hid (PSt (w.alloc (.cells #[.int .i64 r.freq, .int .i64 r.intv, .int .i64 r.cnt, .bool r.has, .int .i64 r.unt.secs, .bool r.unt.utc, .bool r.unt.date, .slice a1 r.mon.length c1, .slice a2 r.md.length c2, .slice a3 r.dys.length c3, .slice a4 r.pos.length c4, .int .i64 r.wk] 27)) W9 x9 (((((((([] ++ optK r 0) ++ optK r 1) ++ optK r 3) ++ optK r 4) ++ optK r 5) ++ optK r 6) ++ optK r 7) ++ optK r 8)) := Lib.hid ⟨P8.out.bel.trans ((((Below.refl _ W8).alloc (Nat.le_refl _) _).mono P8.out.bel.size).trans hb), ho, by have := optK_len r 0; have := optK_len r 1; have := optK_len r 2; have := optK_len r 3; have := optK_len r 4; have := optK_len r 5; have := optK_len r 6; have := optK_len r 7; have := optK_len r 8; simp only [List.length_append, List.length_nil]; omega⟩
               clear hb ho
               clear t0 t1 t2 t3 t4 t5 t6 t7 t8 t9 t10 t11
               have t0 : W9.cell? ⟨w.heap.size, 0, none⟩ = some (.int .i64 r.freq) := CELL.out W9 P9.out.bel 0 _ rfl
               have t1 : W9.cell? ⟨w.heap.size, 1, none⟩ = some (.int .i64 r.intv) := CELL.out W9 P9.out.bel 1 _ rfl
               have t2 : W9.cell? ⟨w.heap.size, 2, none⟩ = some (.int .i64 0) := (CELL.out W9 P9.out.bel 2 (.int .i64 r.cnt) rfl).trans (by rw [E2.out])
               have t3 : W9.cell? ⟨w.heap.size, 3, none⟩ = some (.bool true) := (CELL.out W9 P9.out.bel 3 (.bool r.has) rfl).trans (by rw [HH.out])
               have t4 : W9.cell? ⟨w.heap.size, 4, none⟩ = some (.int .i64 r.unt.secs) := CELL.out W9 P9.out.bel 4 _ rfl
               have t5 : W9.cell? ⟨w.heap.size, 5, none⟩ = some (.bool r.unt.utc) := CELL.out W9 P9.out.bel 5 _ rfl
               have t6 : W9.cell? ⟨w.heap.size, 6, none⟩ = some (.bool r.unt.date) := CELL.out W9 P9.out.bel 6 _ rfl
               have t7 : W9.cell? ⟨w.heap.size, 7, none⟩ = some (.slice a1 r.mon.length c1) := CELL.out W9 P9.out.bel 7 _ rfl
               have t8 : W9.cell? ⟨w.heap.size, 8, none⟩ = some (.slice a2 r.md.length c2) := CELL.out W9 P9.out.bel 8 _ rfl
               have t9 : W9.cell? ⟨w.heap.size, 9, none⟩ = some (.slice a3 r.dys.length c3) := CELL.out W9 P9.out.bel 9 _ rfl
               have t10 : W9.cell? ⟨w.heap.size, 10, none⟩ = some (.slice a4 r.pos.length c4) := CELL.out W9 P9.out.bel 10 _ rfl
               have t11 : W9.cell? ⟨w.heap.size, 11, none⟩ = some (.int .i64 r.wk) := CELL.out W9 P9.out.bel 11 _ rfl)
            | (go_at_call 42; refine (joinP P9.out (by rw [← HPS.out]; exact partsV_ne r) (by rw [← HPS.out]; exact parts_max hF)).mono ?_; rintro e W9 ⟨rfl, hb⟩; have HB9 := Lib.hid (BW.out _ (P9.out.bel.trans (hb.mono P9.out.bel.size))); clear hb))
          go_ret
          exact ⟨by rw [HP.out, HPS.out]; first | rfl | simp, HB9.out⟩
end Go.Proofs.YtnidkcedomhofaaGreatDoor
