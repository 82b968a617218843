/-
  The program's own functions of layer 14: a text in great letters; and the document's.
-/
import Derived.Test.YtnidkcedomhofaaGreatDoorG19
import Derived.Test.YtnidkcedomhofaaGreatDoorG10
import Derived.Test.YtnidkcedomhofaaGreatDoorG20
import Derived.Shelf.AbstractIn
namespace Go.Proofs.YtnidkcedomhofaaGreatDoor
open Go.RowKit

/-- The first k with great letters. -/
def upK (l : List UInt8) (k : Nat) : List UInt8 := upL (l.take k) ++ l.drop k
theorem upK_zero (l : List UInt8) : upK l 0 = l := by simp [upK, upL]
theorem upK_all {l : List UInt8} {k : Nat} (h : l.length ≤ k) : upK l k = upL l := by simp [upK, List.take_of_length_le h, List.drop_eq_nil_of_le h]
theorem upK_length (l : List UInt8) (k : Nat) : (upK l k).length = l.length := by simp [upK, upL]; omega
theorem upK_get {l : List UInt8} {k : Nat} : (upK l k).getD k 0 = l.getD k 0 := by
  unfold upK
  rw [List.getD_eq_getElem?_getD, List.getD_eq_getElem?_getD]
  by_cases hk : k < l.length
  · rw [List.getElem?_append_right (by simp [upL]; omega)]
    simp [upL, Nat.min_eq_left (Nat.le_of_lt hk)]
  · rw [List.getElem?_eq_none (by simp [upL]; omega), List.getElem?_eq_none (by omega)]
theorem upK_set {l : List UInt8} {k : Nat} (hk : k < l.length) : (upK l k).set k (upC (l.getD k 0)) = upK l (k + 1) := by
  unfold upK
  have e1 : (upL (l.take k)).length = k := by simp [upL]; omega
  rw [List.set_append_right k _ (by omega), e1, Nat.sub_self, List.drop_eq_getElem_cons hk, List.set_cons_zero, List.take_succ_eq_append_getElem hk, upL_append]
  simp [upL, List.getD_eq_getElem?_getD, hk]

theorem upK_keep {l : List UInt8} {k : Nat} (hk : k < l.length) (h : upC (l.getD k 0) = l.getD k 0) : upK l k = upK l (k + 1) := by
  rw [← upK_set hk, h, ← upK_get (l := l) (k := k)]
  have hk' : k < (upK l k).length := by rw [upK_length]; exact hk
  rw [List.getD_eq_getElem?_getD, List.getElem?_eq_getElem hk']
  simp
set_option maxRecDepth 100000 in
set_option maxHeartbeats 2000000 in
theorem great_any (s : ByteArray) (hs : s.size ≤ 16777216) (w : World) :
    Calls Tryz.prog 19 #[.string s] w fun e w' => e = .returned (.string ⟨(upL s.data.toList).toArray⟩) ∧ Below w.heap.size w w' := by
  have hcv := run_bytes_of_string (P := Tryz.prog) w 9 72 5 s Tryz.underlying9 Tryz.underlying72 Tryz.underlying5
  have hb0 := Byt.of_text w 5 s (grownCap w s.size 0 5)
  have hl0 := Byt.of_text_below w 5 s (grownCap w s.size 0 5)
  generalize hC : grownCap w s.size 0 5 = C at hcv hb0 hl0
  generalize w.drew.alloc (.cells (bytesRow s C) 5 ((bytesRow s C).size, (bytesRow s C).size + 1)) = w1 at hcv hb0 hl0
  generalize hg : w.heap.size = g at hcv hb0 hl0 ⊢
  have HG := Lib.hid hg; clear hg
  have hlen := Lib.hid (bsize s)
  have HB := Lib.hid hb0; have HL := Lib.hid hl0
  clear hb0 hl0 hC
  go_enter Tryz.func19, Tryz.ntmps19
  go_wp2
  clear hcv
  go_loopw [9] (fun p wr => ∃ k : Nat, p = .int .i64 k ∧ k ≤ s.size ∧ Hid (Byt wr g (upK s.data.toList k)) ∧ Hid (Below g w wr)) (fun p _ => s.size - (intOf p).toNat)
  case atStart => exact ⟨0, rfl, Nat.zero_le _, Lib.hid (by rw [upK_zero]; exact HB.out), HL⟩
  case round =>
    obtain ⟨k, rfl, hk, HB1, HL1⟩ := hrel
    by_cases hlt : k < s.size
    · have hce := HB1.out.cell k (by rw [upK_length, ← hlen.out]; exact hlt)
      have hfr := HB1.out.free k (by rw [upK_length, ← hlen.out]; exact hlt)
      rw [upK_get] at hce
      obtain ⟨x, hx⟩ : ∃ x, x = s.data.toList.getD k 0 := ⟨_, rfl⟩
      rw [← hx] at hce
      have HX := Lib.hid hx; clear hx
      have hxb := x.toNat_lt
      by_cases h1 : 97 ≤ x.toNat
      · by_cases h2 : x.toNat ≤ 122
        · go_wp2
          have HB2 := Lib.hid (HB1.out.set k (upC x))
          have HL2 := Lib.hid (HL1.out.setCell (p := ⟨g, k, none⟩) (Nat.le_refl _) (.int .u8 ((upC x).toNat : Int)))
          rw [HX.out, upK_set (by rw [← hlen.out]; exact hlt), ← HX.out, upC_turn ⟨h1, h2⟩] at HB2
          rw [upC_turn ⟨h1, h2⟩] at HL2
          rw [show ((x.toNat - 32 : Nat) : Int) = (x.toNat : Int) - 32 by omega] at HB2 HL2
          go_round
          case rel => exact ⟨k + 1, by go_num, by omega, HB2, HL2⟩
          case measure => simp [intOf]; omega
        · have HB2 : Hid (Byt wr g (upK s.data.toList (k + 1))) := Lib.hid (by rw [← upK_keep (by rw [← hlen.out]; exact hlt) (by rw [← HX.out]; exact upC_keep (by omega))]; exact HB1.out)
          go_wp2
          go_round
          case rel => exact ⟨k + 1, by go_num, by omega, HB2, HL1⟩
          case measure => simp [intOf]; omega
      · have HB2 : Hid (Byt wr g (upK s.data.toList (k + 1))) := Lib.hid (by rw [← upK_keep (by rw [← hlen.out]; exact hlt) (by rw [← HX.out]; exact upC_keep (by omega))]; exact HB1.out)
        go_wp2
        go_round
        case rel => exact ⟨k + 1, by go_num, by omega, HB2, HL1⟩
        case measure => simp [intOf]; omega
    · obtain rfl : k = s.size := by omega
      have hcv2 := HB1.out.conv (P := Tryz.prog) Tryz.underlying72 Tryz.underlying5 Tryz.underlying9 C s.size (by rw [upK_length, ← hlen.out])
      rw [upK_all (by rw [← hlen.out]; exact Nat.le_refl _)] at hcv2
      go_wp2
      go_ret
      exact ⟨rfl, HL1.out⟩
set_option maxRecDepth 100000 in
set_option maxHeartbeats 2000000 in
theorem refUpper_any (s : ByteArray) (hs : s.size ≤ 16777216) (w : World) :
    Calls Tryz.prog 21 #[.string s] w fun e w' => e = .returned (.string ⟨(upL s.data.toList).toArray⟩) ∧ Below w.heap.size w w' := by
  have hcv := run_bytes_of_string (P := Tryz.prog) w 9 72 5 s Tryz.underlying9 Tryz.underlying72 Tryz.underlying5
  have hb0 := Byt.of_text w 5 s (grownCap w s.size 0 5)
  have hl0 := Byt.of_text_below w 5 s (grownCap w s.size 0 5)
  generalize hC : grownCap w s.size 0 5 = C at hcv hb0 hl0
  generalize w.drew.alloc (.cells (bytesRow s C) 5 ((bytesRow s C).size, (bytesRow s C).size + 1)) = w1 at hcv hb0 hl0
  generalize hg : w.heap.size = g at hcv hb0 hl0 ⊢
  have HG := Lib.hid hg; clear hg
  have hlen := Lib.hid (bsize s)
  have HB := Lib.hid hb0; have HL := Lib.hid hl0
  clear hb0 hl0 hC
  go_enter Tryz.func21, Tryz.ntmps21
  go_wp2
  clear hcv
  go_loopw [4] (fun p wr => ∃ k : Nat, p = .int .i64 k ∧ k ≤ s.size ∧ Hid (Byt wr g (upK s.data.toList k)) ∧ Hid (Below g w wr)) (fun p _ => s.size - (intOf p).toNat)
  case atStart => exact ⟨0, rfl, Nat.zero_le _, Lib.hid (by rw [upK_zero]; exact HB.out), HL⟩
  case round =>
    obtain ⟨k, rfl, hk, HB1, HL1⟩ := hrel
    by_cases hlt : k < s.size
    · have hce := HB1.out.cell k (by rw [upK_length, ← hlen.out]; exact hlt)
      have hfr := HB1.out.free k (by rw [upK_length, ← hlen.out]; exact hlt)
      rw [upK_get] at hce
      obtain ⟨x, hx⟩ : ∃ x, x = s.data.toList.getD k 0 := ⟨_, rfl⟩
      rw [← hx] at hce
      have HX := Lib.hid hx; clear hx
      have hxb := x.toNat_lt
      by_cases h1 : 97 ≤ x.toNat
      · by_cases h2 : x.toNat ≤ 122
        · go_wp2
          have HB2 := Lib.hid (HB1.out.set k (upC x))
          have HL2 := Lib.hid (HL1.out.setCell (p := ⟨g, k, none⟩) (Nat.le_refl _) (.int .u8 ((upC x).toNat : Int)))
          rw [HX.out, upK_set (by rw [← hlen.out]; exact hlt), ← HX.out, upC_turn ⟨h1, h2⟩] at HB2
          rw [upC_turn ⟨h1, h2⟩] at HL2
          rw [show ((x.toNat - 32 : Nat) : Int) = (x.toNat : Int) - 32 by omega] at HB2 HL2
          go_round
          case rel => exact ⟨k + 1, by go_num, by omega, HB2, HL2⟩
          case measure => simp [intOf]; omega
        · have HB2 : Hid (Byt wr g (upK s.data.toList (k + 1))) := Lib.hid (by rw [← upK_keep (by rw [← hlen.out]; exact hlt) (by rw [← HX.out]; exact upC_keep (by omega))]; exact HB1.out)
          go_wp2
          go_round
          case rel => exact ⟨k + 1, by go_num, by omega, HB2, HL1⟩
          case measure => simp [intOf]; omega
      · have HB2 : Hid (Byt wr g (upK s.data.toList (k + 1))) := Lib.hid (by rw [← upK_keep (by rw [← hlen.out]; exact hlt) (by rw [← HX.out]; exact upC_keep (by omega))]; exact HB1.out)
        go_wp2
        go_round
        case rel => exact ⟨k + 1, by go_num, by omega, HB2, HL1⟩
        case measure => simp [intOf]; omega
    · obtain rfl : k = s.size := by omega
      have hcv2 := HB1.out.conv (P := Tryz.prog) Tryz.underlying72 Tryz.underlying5 Tryz.underlying9 C s.size (by rw [upK_length, ← hlen.out])
      rw [upK_all (by rw [← hlen.out]; exact Nat.le_refl _)] at hcv2
      go_wp2
      go_ret
      exact ⟨rfl, HL1.out⟩
end Go.Proofs.YtnidkcedomhofaaGreatDoor

/-
  The program's own functions of layer 14: which numbers, days and lists can be.
-/
namespace Go.Proofs.YtnidkcedomhofaaGreatDoor
open Go.RowKit

/-- A slice as it reads: k elements of a size. -/
def Sl (W : World) (v : Value) (k size : Nat) (cs : List Value) : Prop :=
  cs.length = k * size ∧ ((k = 0 ∧ ∃ a c, v = .slice a 0 c) ∨ ∃ (b o c : Nat), v = .slice (some ⟨b, o, none⟩) k c ∧ b < W.heap.size ∧ ∀ (j : Nat) (u : Value), cs[j]? = some u → W.cell? ⟨b, o + j, none⟩ = some u)
theorem Sl.step {W W' : World} {v : Value} {k size : Nat} {cs : List Value} (h : Sl W v k size cs) (hb : Below W.heap.size W W') : Sl W' v k size cs := by
  refine ⟨h.1, ?_⟩
  rcases h.2 with h2 | ⟨b, o, c, h2, h3, h4⟩
  · exact .inl h2
  · exact .inr ⟨b, o, c, h2, Nat.lt_of_lt_of_le h3 hb.size, fun j u hj => (hb.cell (p := ⟨b, o + j, none⟩) h3).trans (h4 j u hj)⟩
theorem Sl.of_own {W : World} {n size k : Nat} {e : TypeId} {v : Value} {xs : List Value} (h : W.ownsRow n e size v k xs) : Sl W v k size xs := by
  refine ⟨h.1, ?_⟩
  rcases h.2 with ⟨rfl, h0⟩ | ⟨g, cap, cur, rfl, _, hg, _⟩
  · exact .inl ⟨h0, none, 0, rfl⟩
  · refine .inr ⟨g, 0, cap, rfl, (Array.getElem?_eq_some_iff.1 hg).1, fun j u hj => ?_⟩
    have := h.cells (g := g) rfl j u hj
    have ea : (⟨g, 0, none⟩ : Addr).add j = ⟨g, 0 + j, none⟩ := by unfold Addr.add; split <;> simp_all
    rwa [ea] at this
def cntB (n most : Int) : Bool := decide (1 ≤ n) && decide (n ≤ most)
def eitB (n most : Int) : Bool := decide (n ≠ 0) && (decide (-most ≤ n) && decide (n ≤ most))
def dayOk (n : Int) : Bool := decide (0 ≤ n) && decide (n < 7)
def wdOk (d : Int × Int) : Bool := dayOk d.2 && (decide (d.1 = 0) || eitB d.1 53)
theorem isCount_any (n most : Int) (w : World) : Calls Tryz.prog 28 #[.int .i64 n, .int .i64 most] w fun e w' => e = .returned (.bool (cntB n most)) ∧ w' = w := by
  have H : Hid (cntB n most = (decide (1 ≤ n) && decide (n ≤ most))) := Lib.hid rfl
  by_cases h1 : 1 ≤ n <;> by_cases h2 : n ≤ most
  all_goals
    go_enter Tryz.func28, Tryz.ntmps28
    go_wp2
    go_ret
    exact ⟨by rw [H.out]; simp [h1, h2] <;> omega, rfl⟩
theorem isEither_any (n most : Int) (hm : 0 ≤ most ∧ most ≤ 10000) (w : World) : Calls Tryz.prog 100 #[.int .i64 n, .int .i64 most] w fun e w' => e = .returned (.bool (eitB n most)) ∧ w' = w := by
  have H : Hid (eitB n most = (decide (n ≠ 0) && (decide (-most ≤ n) && decide (n ≤ most)))) := Lib.hid rfl
  by_cases h0 : n = 0
  · subst h0
    go_enter Tryz.func100, Tryz.ntmps100
    go_wp2
    go_ret
    exact ⟨by rw [H.out]; simp, rfl⟩
  · have h0b : (n != 0) = true := by simpa using h0
    by_cases h1 : -most ≤ n <;> by_cases h2 : n ≤ most
    all_goals
      go_enter Tryz.func100, Tryz.ntmps100
      go_wp2
      go_ret
      exact ⟨by rw [H.out]; simp [h0, h1, h2] <;> omega, rfl⟩
theorem isDay_any (n : Int) (w : World) : Calls Tryz.prog 31 #[.int .i64 n] w fun e w' => e = .returned (.bool (dayOk n)) ∧ w' = w := by
  have H : Hid (dayOk n = (decide (0 ≤ n) && decide (n < 7))) := Lib.hid rfl
  by_cases h1 : 0 ≤ n <;> by_cases h2 : n < 7
  all_goals
    go_enter Tryz.func31, Tryz.ntmps31
    go_wp2
    go_ret
    exact ⟨by rw [H.out]; simp [h1, h2] <;> omega, rfl⟩
theorem isMonth_any (n : Int) (w : World) : Calls Tryz.prog 60 #[.int .i64 n] w fun e w' => e = .returned (.bool (cntB n 12)) ∧ w' = w := by
  have c := isCount_any n 12 w
  go_enter Tryz.func60, Tryz.ntmps60
  go_wp2_with (go_at_call 28; refine c.mono ?_; rintro e w' ⟨rfl, hw⟩; subst w')
  go_ret
  exact ⟨rfl, rfl⟩
theorem isMonthDay_any (n : Int) (w : World) : Calls Tryz.prog 61 #[.int .i64 n] w fun e w' => e = .returned (.bool (eitB n 31)) ∧ w' = w := by
  have c := isEither_any n 31 (by omega) w
  go_enter Tryz.func61, Tryz.ntmps61
  go_wp2_with (go_at_call 100; refine c.mono ?_; rintro e w' ⟨rfl, hw⟩; subst w')
  go_ret
  exact ⟨rfl, rfl⟩
theorem isPlace_any (n : Int) (w : World) : Calls Tryz.prog 64 #[.int .i64 n] w fun e w' => e = .returned (.bool (eitB n 366)) ∧ w' = w := by
  have c := isEither_any n 366 (by omega) w
  go_enter Tryz.func64, Tryz.ntmps64
  go_wp2_with (go_at_call 100; refine c.mono ?_; rintro e w' ⟨rfl, hw⟩; subst w')
  go_ret
  exact ⟨rfl, rfl⟩
theorem hasNumber_any (d : Int × Int) (w : World) : Calls Tryz.prog 66 #[.agg #[.int .i64 d.1, .int .i64 d.2]] w fun e w' => e = .returned (.bool (d.1 != 0)) ∧ Below w.heap.size w w' := by
  obtain ⟨a, b⟩ := d
  go_enter Tryz.func66, Tryz.ntmps66
  go_wp2
  go_ret
  exact ⟨rfl, (Below.refl _ _).alloc (Nat.le_refl _) _⟩
set_option maxHeartbeats 1000000 in
theorem isWDay_any (d : Int × Int) (w : World) : Calls Tryz.prog 63 #[.agg #[.int .i64 d.1, .int .i64 d.2]] w fun e w' => e = .returned (.bool (wdOk d)) ∧ Below w.heap.size w w' := by
  obtain ⟨a, b⟩ := d
  have c1 := fun w => isDay_any b w
  have c2 := fun w => hasNumber_any (a, b) w
  have c3 := fun w => isEither_any a 53 (by omega) w
  have H : Hid (wdOk (a, b) = (dayOk b && (decide (a = 0) || eitB a 53))) := Lib.hid rfl
  have hb1 : Below w.heap.size w (w.alloc (.cells #[.int .i64 a, .int .i64 b] 57)) := (Below.refl _ _).alloc (Nat.le_refl _) _
  have x0 : (w.alloc (.cells #[.int .i64 a, .int .i64 b] 57)).cell? ⟨w.heap.size, 0, none⟩ = some (.int .i64 a) := by simp
  generalize dayOk b = p at c1 H
  generalize eitB a 53 = q at c3 H
  cases p
  · go_enter Tryz.func63, Tryz.ntmps63
    go_wp2_with (go_at_call 31; refine (c1 _).mono ?_; rintro e w' ⟨rfl, hw⟩; subst w')
    go_ret
    exact ⟨by rw [H.out]; rfl, hb1⟩
  · by_cases h0 : a = 0
    · have h0b : (a != 0) = false := by rw [h0]; rfl
      simp only [h0b] at c2
      have H2 : Hid (wdOk (a, b) = true) := Lib.hid (by rw [H.out, h0]; rfl)
      clear h0 H
      go_enter Tryz.func63, Tryz.ntmps63
      go_wp2_with (first
        | (go_at_call 31; refine (c1 _).mono ?_; rintro e w' ⟨rfl, hw⟩; subst w')
        | (go_at_call 66; refine (c2 _).mono ?_; rintro e w2 ⟨rfl, hb2⟩))
      go_ret
      exact ⟨by rw [H2.out]; rfl, bstep hb1 hb2⟩
    · have h0b : (a != 0) = true := by simpa using h0
      simp only [h0b] at c2
      have H2 : Hid (wdOk (a, b) = q) := Lib.hid (by rw [H.out, decide_eq_false h0]; rfl)
      clear h0 H
      go_enter Tryz.func63, Tryz.ntmps63
      go_wp2_with (first
        | (go_at_call 31; refine (c1 _).mono ?_; rintro e w' ⟨rfl, hw⟩; subst w')
        | (go_at_call 66; refine (c2 _).mono ?_; rintro e w2 ⟨rfl, hb2⟩
           have y0 := (hb2.cell (p := ⟨w.heap.size, 0, none⟩) (by simp)).trans x0)
        | (go_at_call 100; refine (c3 _).mono ?_; rintro e w' ⟨rfl, hw⟩; subst w'))
      go_ret
      exact ⟨by rw [H2.out]; rfl, bstep hb1 hb2⟩
end Go.Proofs.YtnidkcedomhofaaGreatDoor
