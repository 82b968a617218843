/-
  The program's own functions of layer 14: lists of which all values can be.
-/
import Derived.Test.YtnidkcedomhofaaGreatDoorG29
namespace Go.Proofs.YtnidkcedomhofaaGreatDoor
open Go.RowKit

theorem int_cells {W : World} {b o : Nat} {l : List Int} (h : ∀ (j : Nat) (u : Value), (intC l)[j]? = some u → W.cell? ⟨b, o + j, none⟩ = some u) : ∀ j, j < l.length → W.cell? ⟨b, o + j, none⟩ = some (.int .i64 l[j]!) := fun j hj => by
  refine h j _ ?_
  rw [getElem!_pos l j hj]
  simp [intC, List.getElem?_eq_getElem hj]
theorem cloMon (x : Int) (B : Nat) (W : World) (h : W.cell? ⟨B, 0, none⟩ = some (.func (.func 60) #[] #[])) : Calls Tryz.prog 99 #[.int .i64 x, .pointer (some ⟨B, 0, none⟩)] W fun e w' => e = .returned (.bool (!(cntB x 12))) ∧ w' = W := by
  have c := isMonth_any x W
  generalize cntB x 12 = q at c
  go_enter Tryz.func99, Tryz.ntmps99
  go_wp2_with (go_at_call 60; refine c.mono ?_; rintro e w' ⟨rfl, hw⟩; subst w')
  go_ret
  exact ⟨rfl, rfl⟩
set_option maxHeartbeats 1000000 in
theorem areAllMon (v : Value) (l : List Int) (w : World) (hl : l.length ≤ 100000000) (h : Sl w v l.length 1 (intC l)) : Calls Tryz.prog 59 #[v, .func (.func 60) #[] #[]] w fun e w' => e = .returned (.bool (decide (l.length ≤ 24) && l.all fun x => cntB x 12)) ∧ Below w.heap.size w w' := by
  have hb1 : Below w.heap.size w (w.alloc (.cells #[.func (.func 60) #[] #[]] 60)) := (Below.refl _ _).alloc (Nat.le_refl _) _
  have x0 : (w.alloc (.cells #[.func (.func 60) #[] #[]] 60)).cell? ⟨w.heap.size, 0, none⟩ = some (.func (.func 60) #[] #[]) := by simp
  have hst : ∀ (a : Addr) (m : Mode) (W : World), Sem.run Tryz.prog (store a (.func (.func 60) #[] #[]) m) W = stored Tryz.prog W a (.func (.func 60) #[] #[]) m := fun a m W => run_store _ W a _ m rfl
  have hall : (!(l.any fun x => !(cntB x 12))) = l.all fun x => cntB x 12 := by
    rw [List.all_eq_not_any_not]
  rcases h.2 with ⟨h0, a, c, rfl⟩ | ⟨b, o, c, rfl, hbl, hc⟩
  · have e0 : l = [] := List.eq_nil_of_length_eq_zero h0
    subst e0
    have cc := Tryz.slices_ContainsFunc_empty (α := Int) a c (.func (.func 99) #[] #[.pointer (some ⟨w.heap.size, 0, none⟩)]) (w.alloc (.cells #[.func (.func 60) #[] #[]] 60))
    go_enter Tryz.func59, Tryz.ntmps59
    go_wp2_with (go_at_call 98; refine cc.mono ?_; rintro e w' ⟨rfl, hw⟩; subst w')
    go_ret
    exact ⟨rfl, hb1⟩
  · by_cases h24 : l.length ≤ 24
    · have hi24 : (l.length : Int) ≤ 24 := by omega
      have cc := Tryz.slices_ContainsFunc (Value.int .i64) (fun x => !(cntB x 12)) 99 #[.pointer (some ⟨w.heap.size, 0, none⟩)] (enters_of Tryz.func99 (by kernel_rfl) rfl) b o l.length c l (w.alloc (.cells #[.func (.func 60) #[] #[]] 60)) (fun W x hb => (cloMon x w.heap.size W ((hb.cell (p := ⟨w.heap.size, 0, none⟩) (by simp)).trans x0)).mono fun e w' h => ⟨h.1, 0, h.2⟩) (Nat.le_refl _) (by omega) (int_cells fun j u hj => (hb1.cell (p := ⟨b, o + j, none⟩) hbl).trans (hc j u hj))
      rw [List.take_length] at cc
      have H : Hid ((decide (l.length ≤ 24) && l.all fun x => cntB x 12) = !(l.any fun x => !(cntB x 12))) := Lib.hid (by rw [hall, decide_eq_true h24]; rfl)
      generalize (l.any fun x => !(cntB x 12)) = q at cc H
      clear hall
      go_enter Tryz.func59, Tryz.ntmps59
      go_wp2_with (go_at_call 98; refine cc.mono ?_; rintro e w' ⟨rfl, nq, hw⟩; subst w')
      go_ret
      exact ⟨by rw [H.out]; rfl, hb1.trans ⟨rfl, rfl, rfl, Nat.le_refl _, fun _ _ => rfl⟩⟩
    · have hi24 : ¬ (l.length : Int) ≤ 24 := by omega
      have H : Hid ((decide (l.length ≤ 24) && l.all fun x => cntB x 12) = false) := Lib.hid (by rw [decide_eq_false h24]; rfl)
      clear hall
      go_enter Tryz.func59, Tryz.ntmps59
      go_wp2
      go_ret
      exact ⟨by first | (rw [H.out]; rfl) | rfl, hb1⟩
theorem cloMd (x : Int) (B : Nat) (W : World) (h : W.cell? ⟨B, 0, none⟩ = some (.func (.func 61) #[] #[])) : Calls Tryz.prog 99 #[.int .i64 x, .pointer (some ⟨B, 0, none⟩)] W fun e w' => e = .returned (.bool (!(eitB x 31))) ∧ w' = W := by
  have c := isMonthDay_any x W
  generalize eitB x 31 = q at c
  go_enter Tryz.func99, Tryz.ntmps99
  go_wp2_with (go_at_call 61; refine c.mono ?_; rintro e w' ⟨rfl, hw⟩; subst w')
  go_ret
  exact ⟨rfl, rfl⟩
set_option maxHeartbeats 1000000 in
theorem areAllMd (v : Value) (l : List Int) (w : World) (hl : l.length ≤ 100000000) (h : Sl w v l.length 1 (intC l)) : Calls Tryz.prog 59 #[v, .func (.func 61) #[] #[]] w fun e w' => e = .returned (.bool (decide (l.length ≤ 24) && l.all fun x => eitB x 31)) ∧ Below w.heap.size w w' := by
  have hb1 : Below w.heap.size w (w.alloc (.cells #[.func (.func 61) #[] #[]] 60)) := (Below.refl _ _).alloc (Nat.le_refl _) _
  have x0 : (w.alloc (.cells #[.func (.func 61) #[] #[]] 60)).cell? ⟨w.heap.size, 0, none⟩ = some (.func (.func 61) #[] #[]) := by simp
  have hst : ∀ (a : Addr) (m : Mode) (W : World), Sem.run Tryz.prog (store a (.func (.func 61) #[] #[]) m) W = stored Tryz.prog W a (.func (.func 61) #[] #[]) m := fun a m W => run_store _ W a _ m rfl
  have hall : (!(l.any fun x => !(eitB x 31))) = l.all fun x => eitB x 31 := by
    rw [List.all_eq_not_any_not]
  rcases h.2 with ⟨h0, a, c, rfl⟩ | ⟨b, o, c, rfl, hbl, hc⟩
  · have e0 : l = [] := List.eq_nil_of_length_eq_zero h0
    subst e0
    have cc := Tryz.slices_ContainsFunc_empty (α := Int) a c (.func (.func 99) #[] #[.pointer (some ⟨w.heap.size, 0, none⟩)]) (w.alloc (.cells #[.func (.func 61) #[] #[]] 60))
    go_enter Tryz.func59, Tryz.ntmps59
    go_wp2_with (go_at_call 98; refine cc.mono ?_; rintro e w' ⟨rfl, hw⟩; subst w')
    go_ret
    exact ⟨rfl, hb1⟩
  · by_cases h24 : l.length ≤ 24
    · have hi24 : (l.length : Int) ≤ 24 := by omega
      have cc := Tryz.slices_ContainsFunc (Value.int .i64) (fun x => !(eitB x 31)) 99 #[.pointer (some ⟨w.heap.size, 0, none⟩)] (enters_of Tryz.func99 (by kernel_rfl) rfl) b o l.length c l (w.alloc (.cells #[.func (.func 61) #[] #[]] 60)) (fun W x hb => (cloMd x w.heap.size W ((hb.cell (p := ⟨w.heap.size, 0, none⟩) (by simp)).trans x0)).mono fun e w' h => ⟨h.1, 0, h.2⟩) (Nat.le_refl _) (by omega) (int_cells fun j u hj => (hb1.cell (p := ⟨b, o + j, none⟩) hbl).trans (hc j u hj))
      rw [List.take_length] at cc
      have H : Hid ((decide (l.length ≤ 24) && l.all fun x => eitB x 31) = !(l.any fun x => !(eitB x 31))) := Lib.hid (by rw [hall, decide_eq_true h24]; rfl)
      generalize (l.any fun x => !(eitB x 31)) = q at cc H
      clear hall
      go_enter Tryz.func59, Tryz.ntmps59
      go_wp2_with (go_at_call 98; refine cc.mono ?_; rintro e w' ⟨rfl, nq, hw⟩; subst w')
      go_ret
      exact ⟨by rw [H.out]; rfl, hb1.trans ⟨rfl, rfl, rfl, Nat.le_refl _, fun _ _ => rfl⟩⟩
    · have hi24 : ¬ (l.length : Int) ≤ 24 := by omega
      have H : Hid ((decide (l.length ≤ 24) && l.all fun x => eitB x 31) = false) := Lib.hid (by rw [decide_eq_false h24]; rfl)
      clear hall
      go_enter Tryz.func59, Tryz.ntmps59
      go_wp2
      go_ret
      exact ⟨by first | (rw [H.out]; rfl) | rfl, hb1⟩
theorem cloPos (x : Int) (B : Nat) (W : World) (h : W.cell? ⟨B, 0, none⟩ = some (.func (.func 64) #[] #[])) : Calls Tryz.prog 99 #[.int .i64 x, .pointer (some ⟨B, 0, none⟩)] W fun e w' => e = .returned (.bool (!(eitB x 366))) ∧ w' = W := by
  have c := isPlace_any x W
  generalize eitB x 366 = q at c
  go_enter Tryz.func99, Tryz.ntmps99
  go_wp2_with (go_at_call 64; refine c.mono ?_; rintro e w' ⟨rfl, hw⟩; subst w')
  go_ret
  exact ⟨rfl, rfl⟩
set_option maxHeartbeats 1000000 in
theorem areAllPos (v : Value) (l : List Int) (w : World) (hl : l.length ≤ 100000000) (h : Sl w v l.length 1 (intC l)) : Calls Tryz.prog 59 #[v, .func (.func 64) #[] #[]] w fun e w' => e = .returned (.bool (decide (l.length ≤ 24) && l.all fun x => eitB x 366)) ∧ Below w.heap.size w w' := by
  have hb1 : Below w.heap.size w (w.alloc (.cells #[.func (.func 64) #[] #[]] 60)) := (Below.refl _ _).alloc (Nat.le_refl _) _
  have x0 : (w.alloc (.cells #[.func (.func 64) #[] #[]] 60)).cell? ⟨w.heap.size, 0, none⟩ = some (.func (.func 64) #[] #[]) := by simp
  have hst : ∀ (a : Addr) (m : Mode) (W : World), Sem.run Tryz.prog (store a (.func (.func 64) #[] #[]) m) W = stored Tryz.prog W a (.func (.func 64) #[] #[]) m := fun a m W => run_store _ W a _ m rfl
  have hall : (!(l.any fun x => !(eitB x 366))) = l.all fun x => eitB x 366 := by
    rw [List.all_eq_not_any_not]
  rcases h.2 with ⟨h0, a, c, rfl⟩ | ⟨b, o, c, rfl, hbl, hc⟩
  · have e0 : l = [] := List.eq_nil_of_length_eq_zero h0
    subst e0
    have cc := Tryz.slices_ContainsFunc_empty (α := Int) a c (.func (.func 99) #[] #[.pointer (some ⟨w.heap.size, 0, none⟩)]) (w.alloc (.cells #[.func (.func 64) #[] #[]] 60))
    go_enter Tryz.func59, Tryz.ntmps59
    go_wp2_with (go_at_call 98; refine cc.mono ?_; rintro e w' ⟨rfl, hw⟩; subst w')
    go_ret
    exact ⟨rfl, hb1⟩
  · by_cases h24 : l.length ≤ 24
    · have hi24 : (l.length : Int) ≤ 24 := by omega
      have cc := Tryz.slices_ContainsFunc (Value.int .i64) (fun x => !(eitB x 366)) 99 #[.pointer (some ⟨w.heap.size, 0, none⟩)] (enters_of Tryz.func99 (by kernel_rfl) rfl) b o l.length c l (w.alloc (.cells #[.func (.func 64) #[] #[]] 60)) (fun W x hb => (cloPos x w.heap.size W ((hb.cell (p := ⟨w.heap.size, 0, none⟩) (by simp)).trans x0)).mono fun e w' h => ⟨h.1, 0, h.2⟩) (Nat.le_refl _) (by omega) (int_cells fun j u hj => (hb1.cell (p := ⟨b, o + j, none⟩) hbl).trans (hc j u hj))
      rw [List.take_length] at cc
      have H : Hid ((decide (l.length ≤ 24) && l.all fun x => eitB x 366) = !(l.any fun x => !(eitB x 366))) := Lib.hid (by rw [hall, decide_eq_true h24]; rfl)
      generalize (l.any fun x => !(eitB x 366)) = q at cc H
      clear hall
      go_enter Tryz.func59, Tryz.ntmps59
      go_wp2_with (go_at_call 98; refine cc.mono ?_; rintro e w' ⟨rfl, nq, hw⟩; subst w')
      go_ret
      exact ⟨by rw [H.out]; rfl, hb1.trans ⟨rfl, rfl, rfl, Nat.le_refl _, fun _ _ => rfl⟩⟩
    · have hi24 : ¬ (l.length : Int) ≤ 24 := by omega
      have H : Hid ((decide (l.length ≤ 24) && l.all fun x => eitB x 366) = false) := Lib.hid (by rw [decide_eq_false h24]; rfl)
      clear hall
      go_enter Tryz.func59, Tryz.ntmps59
      go_wp2
      go_ret
      exact ⟨by first | (rw [H.out]; rfl) | rfl, hb1⟩
def lenOfCap : Value → Nat
  | .slice _ _ c => c
  | _ => 0
theorem wd_cells {W : World} {b o : Nat} {l : List (Int × Int)} (h : ∀ (j : Nat) (u : Value), (wdC l)[j]? = some u → W.cell? ⟨b, o + j, none⟩ = some u) {k : Nat} (hk : k < l.length) : W.cell? ⟨b, o + k * 2, none⟩ = some (.int .i64 (l[k]).1) ∧ W.cell? ⟨b, o + k * 2 + 1, none⟩ = some (.int .i64 (l[k]).2) := by
  have g : ∀ (l : List (Int × Int)) (k : Nat) (hk : k < l.length), (wdC l)[k * 2]? = some (.int .i64 (l[k]).1) ∧ (wdC l)[k * 2 + 1]? = some (.int .i64 (l[k]).2) := by
    intro l
    induction l with
    | nil => intro k hk; cases hk
    | cons d l ih =>
      intro k hk
      rw [show wdC (d :: l) = .int .i64 d.1 :: .int .i64 d.2 :: wdC l by simp [wdC]]
      cases k with
      | zero => exact ⟨rfl, rfl⟩
      | succ k =>
        have := ih k (by simpa using hk)
        rw [show (k + 1) * 2 = k * 2 + 1 + 1 by omega]
        simpa using this
  obtain ⟨g1, g2⟩ := g l k hk
  exact ⟨h _ _ g1, by rw [Nat.add_assoc]; exact h _ _ g2⟩
theorem any_take {p : Int × Int → Bool} {l : List (Int × Int)} (h : ∀ j (hj : j < l.length), p (l[j]) = false) : l.any p = false := by
  rw [List.any_eq_false]
  intro x hx
  obtain ⟨j, hj, rfl⟩ := List.mem_iff_getElem.1 hx
  simp [h j hj]
set_option maxHeartbeats 2000000 in
theorem idxFunc_any (v : Value) (l : List (Int × Int)) (g : Nat) (lb : Array Value) (p : Int × Int → Bool) (w : World) (hl : l.length ≤ 100000000) (h : Sl w v l.length 2 (wdC l)) (eg : ∀ args w, (callFunc g args).run Tryz.prog w = .ok (.enter g args) w)
    (hp : ∀ (W : World) (x : Int × Int), Below w.heap.size w W → Calls Tryz.prog g (#[.agg #[.int .i64 x.1, .int .i64 x.2]] ++ lb) W fun e W' => e = .returned (.bool (p x)) ∧ Below W.heap.size W W') :
    Calls Tryz.prog 102 #[v, .func (.func g) #[] lb] w fun e w' => ∃ z : Int, e = .returned (.int .i64 z) ∧ decide (0 ≤ z) = l.any p ∧ Below w.heap.size w w' := by
  rcases h.2 with ⟨h0, a, c, rfl⟩ | ⟨b, o, c, rfl, hbl, hc⟩
  · have e0 : l = [] := List.eq_nil_of_length_eq_zero h0
    subst e0
    go_enter Tryz.func102, Tryz.ntmps102
    go_wp2
    go_loopw [8] (fun q wr => q = .int .i64 0 ∧ wr = w) (fun _ _ => 0)
    case atStart => exact ⟨rfl, rfl⟩
    case round =>
      obtain ⟨rfl, rfl⟩ := hrel
      go_wp2
      go_ret
      exact ⟨-1, rfl, rfl, Below.refl _ _⟩
  · have HC := Lib.hid hc
    have HP := Lib.hid hp
    clear hc hp
    go_enter Tryz.func102, Tryz.ntmps102
    go_wp2
    go_loopw [8] (fun q wr => ∃ k : Nat, q = .int .i64 k ∧ k ≤ l.length ∧ Hid (Below w.heap.size w wr) ∧ Hid (∀ j (_ : j < k) (hj : j < l.length), p (l[j]) = false)) (fun q _ => l.length - (intOf q).toNat)
    case atStart => exact ⟨0, rfl, Nat.zero_le _, Lib.hid (Below.refl _ _), Lib.hid (fun j hj => absurd hj (Nat.not_lt_zero j))⟩
    case round =>
      obtain ⟨k, rfl, hk, HB, HN⟩ := hrel
      by_cases hlt : k < l.length
      · obtain ⟨d0, d1⟩ := wd_cells (W := wr) (b := b) (o := o) (l := l) (fun j u hj => (HB.out.cell (p := ⟨b, o + j, none⟩) hbl).trans (HC.out j u hj)) hlt
        have cp := HP.out wr (l[k]) HB.out
        have hki : (k : Int) < (l.length : Int) := by omega
        have hkn : (k : Int) + 1 ≤ (l.length : Int) := by omega
        obtain ⟨d, hd⟩ : ∃ d, l[k] = d := ⟨_, rfl⟩
        rw [hd] at d0 d1 cp
        obtain ⟨fa, hfa⟩ : ∃ fa, o + k * 2 = fa := ⟨_, rfl⟩
        rw [hfa] at d0 d1
        have HD := Lib.hid hd
        cases hpd : p d
        · rw [hpd] at cp
          have HN2 : Hid (∀ j (_ : j < k + 1) (hj : j < l.length), p (l[j]) = false) := Lib.hid (fun j hj hjl => by
            rcases Nat.lt_or_ge j k with h1 | h1
            · exact HN.out j h1 hjl
            · have : j = k := by omega
              subst this
              rw [HD.out, hpd])
          clear hd hpd HN
          go_wp2_with (go_at_fn g; refine cp.mono ?_; rintro e w2 ⟨rfl, hb2⟩)
          go_round
          case rel => exact ⟨k + 1, by go_num, by omega, Lib.hid (HB.out.trans (hb2.mono HB.out.size)), HN2⟩
          case measure => simp [intOf]; omega
        · rw [hpd] at cp
          have HA : Hid (l.any p = true) := Lib.hid (by rw [List.any_eq_true]; exact ⟨l[k], List.getElem_mem hlt, by rw [HD.out, hpd]⟩)
          clear hd hpd HN
          go_wp2_with (go_at_fn g; refine cp.mono ?_; rintro e w2 ⟨rfl, hb2⟩)
          go_ret
          exact ⟨(k : Int), rfl, by rw [HA.out]; simp, HB.out.trans (hb2.mono HB.out.size)⟩
      · obtain rfl : k = l.length := by omega
        have HA : Hid (l.any p = false) := Lib.hid (any_take fun j hj => HN.out j hj hj)
        have hki : ¬ (l.length : Int) < (l.length : Int) := by omega
        clear HN
        go_wp2
        go_ret
        exact ⟨-1, rfl, by rw [HA.out]; rfl, HB.out⟩
theorem contFunc_any (v : Value) (l : List (Int × Int)) (g : Nat) (lb : Array Value) (p : Int × Int → Bool) (w : World) (hl : l.length ≤ 100000000) (h : Sl w v l.length 2 (wdC l)) (eg : ∀ args w, (callFunc g args).run Tryz.prog w = .ok (.enter g args) w)
    (hp : ∀ (W : World) (x : Int × Int), Below w.heap.size w W → Calls Tryz.prog g (#[.agg #[.int .i64 x.1, .int .i64 x.2]] ++ lb) W fun e W' => e = .returned (.bool (p x)) ∧ Below W.heap.size W W') :
    Calls Tryz.prog 65 #[v, .func (.func g) #[] lb] w fun e w' => e = .returned (.bool (l.any p)) ∧ Below w.heap.size w w' := by
  have cc := idxFunc_any v l g lb p w hl h eg hp
  go_enter Tryz.func65, Tryz.ntmps65
  go_wp2_with (go_at_call 102; refine cc.mono ?_; rintro e w2 ⟨z, rfl, hz, hb2⟩; have HZ := Lib.hid hz; clear hz)
  go_ret
  exact ⟨by rw [← HZ.out]; rfl, hb2⟩
theorem cloWd (x : Int × Int) (B : Nat) (W : World) (h : W.cell? ⟨B, 0, none⟩ = some (.func (.func 63) #[] #[])) (hB : B < W.heap.size) : Calls Tryz.prog 101 #[.agg #[.int .i64 x.1, .int .i64 x.2], .pointer (some ⟨B, 0, none⟩)] W fun e w' => e = .returned (.bool (!(wdOk x))) ∧ Below W.heap.size W w' := by
  obtain ⟨a, b⟩ := x
  have c := fun w => isWDay_any (a, b) w
  generalize wdOk (a, b) = q at c
  have hb1 : Below W.heap.size W (W.alloc (.cells #[.int .i64 a, .int .i64 b] 57)) := (Below.refl _ _).alloc (Nat.le_refl _) _
  have h1 := (hb1.cell (p := ⟨B, 0, none⟩) hB).trans h
  have hne : ¬ B = W.heap.size := by omega
  have hne2 : ¬ W.heap.size = B := by omega
  go_enter Tryz.func101, Tryz.ntmps101
  go_wp2_with (go_at_call 63; refine (c _).mono ?_; rintro e w2 ⟨rfl, hb2⟩)
  go_ret
  exact ⟨rfl, bstep hb1 hb2⟩
set_option maxHeartbeats 1000000 in
theorem areAllWd (v : Value) (l : List (Int × Int)) (w : World) (hl : l.length ≤ 100000000) (h : Sl w v l.length 2 (wdC l)) : Calls Tryz.prog 62 #[v, .func (.func 63) #[] #[]] w fun e w' => e = .returned (.bool (decide (l.length ≤ 24) && l.all wdOk)) ∧ Below w.heap.size w w' := by
  have hb1 : Below w.heap.size w (w.alloc (.cells #[.func (.func 63) #[] #[]] 88)) := (Below.refl _ _).alloc (Nat.le_refl _) _
  have x0 : (w.alloc (.cells #[.func (.func 63) #[] #[]] 88)).cell? ⟨w.heap.size, 0, none⟩ = some (.func (.func 63) #[] #[]) := by simp
  have hst : ∀ (a : Addr) (m : Mode) (W : World), Sem.run Tryz.prog (store a (.func (.func 63) #[] #[]) m) W = stored Tryz.prog W a (.func (.func 63) #[] #[]) m := fun a m W => run_store _ W a _ m rfl
  have hall : (!(l.any fun x => !(wdOk x))) = l.all wdOk := by
    rw [List.all_eq_not_any_not]
  have cc := contFunc_any v l 101 #[.pointer (some ⟨w.heap.size, 0, none⟩)] (fun x => !(wdOk x)) (w.alloc (.cells #[.func (.func 63) #[] #[]] 88)) hl (h.step hb1) (enters_of Tryz.func101 (by kernel_rfl) rfl) (fun W x hb => cloWd x w.heap.size W ((hb.cell (p := ⟨w.heap.size, 0, none⟩) (by simp)).trans x0) (by have := hb.size; simp at this; omega))
  have hlen : ∃ a, v = .slice a l.length (lenOfCap v) := by
    rcases h.2 with ⟨h0, a, c, rfl⟩ | ⟨b, o, c, rfl, _, _⟩
    · exact ⟨a, by rw [h0]; rfl⟩
    · exact ⟨_, rfl⟩
  obtain ⟨a, ha⟩ := hlen
  rw [ha] at cc ⊢
  generalize lenOfCap v = cp at cc
  by_cases h24 : l.length ≤ 24
  · have hi24 : (l.length : Int) ≤ 24 := by omega
    have H : Hid ((decide (l.length ≤ 24) && l.all wdOk) = !(l.any fun x => !(wdOk x))) := Lib.hid (by rw [hall, decide_eq_true h24]; rfl)
    generalize (l.any fun x => !(wdOk x)) = q at cc H
    clear hall ha h
    go_enter Tryz.func62, Tryz.ntmps62
    go_wp2_with (go_at_call 65; refine cc.mono ?_; rintro e w2 ⟨rfl, hb2⟩)
    go_ret
    exact ⟨by rw [H.out]; rfl, bstep hb1 hb2⟩
  · have hi24 : ¬ (l.length : Int) ≤ 24 := by omega
    have H : Hid ((decide (l.length ≤ 24) && l.all wdOk) = false) := Lib.hid (by rw [decide_eq_false h24]; rfl)
    clear hall ha h
    go_enter Tryz.func62, Tryz.ntmps62
    go_wp2
    go_ret
    exact ⟨by first | (rw [H.out]; rfl) | rfl, hb1⟩
end Go.Proofs.YtnidkcedomhofaaGreatDoor
