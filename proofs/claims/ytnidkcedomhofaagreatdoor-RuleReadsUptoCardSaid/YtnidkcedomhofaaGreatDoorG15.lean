/-
  The program's own functions of layer 10: a day's date.
-/
import Derived.Test.YtnidkcedomhofaaGreatDoorG14
import Derived.Lib.ItoaNum
namespace Go.Proofs.YtnidkcedomhofaaGreatDoor
open Go.RowKit Go.Shelf
attribute [local go_sem] Oper.semAt_some

/-- Between two rounds. -/
def InvC (y r : Int) (H : Nat) (w : World) (pre : List (Fin 12)) (W : World) : Prop :=
  (∃ mv : Int, Boxed W H 3 (.int .i64 mv)) ∧ Boxed W (H + 1) 3 (.int .i64 (r - sumM y pre)) ∧ 0 ≤ r - sumM y pre ∧ Below H w W
/-- Behind the round that leaves. -/
def OutC (y r : Int) (H : Nat) (w : World) (c : Code) (pre : List (Fin 12)) (W : World) : Prop :=
  c = .exit 0 ∧ ∃ pre0 i, pre = pre0 ++ [i] ∧ Boxed W H 3 (.int .i64 ((i : Fin 12).val + 1 : Int)) ∧ Boxed W (H + 1) 3 (.int .i64 (r - sumM y pre0)) ∧ 0 ≤ r - sumM y pre0 ∧ r - sumM y pre0 < lenD y ((i.val : Int) + 1) ∧ Below H w W
theorem ownC {y r : Int} {H D : Nat} {w : World} (hH : H ≤ w.heap.size) (hD : H + 1 < D) : OwnFrom D (InvC y r H w) := by
  rintro pre X Y row ⟨⟨mv, h1⟩, h2, h5, h6⟩ hg hr
  have ne : ∀ k, k ≤ H + 1 → some k ≠ row := fun k hk e => by have := (hr _ e.symm).1; omega
  exact ⟨⟨mv, h1.kept hg (ne _ (by omega))⟩, h2.kept hg (ne _ (by omega)), h5, ownFrom_below (β := Unit) (n₀ := H) (w₀ := w) hH (by omega) () X Y row h6 hg hr⟩
theorem ownCx {y r : Int} {H D : Nat} {w : World} (hH : H ≤ w.heap.size) (hD : H + 1 < D) (c : Code) : OwnFrom D (OutC y r H w c) := by
  rintro pre X Y row ⟨h0, pre0, i, hp, h1, h2, h3, h4, h6⟩ hg hr
  have ne : ∀ k, k ≤ H + 1 → some k ≠ row := fun k hk e => by have := (hr _ e.symm).1; omega
  exact ⟨h0, pre0, i, hp, h1.kept hg (ne _ (by omega)), h2.kept hg (ne _ (by omega)), h3, h4, ownFrom_below (β := Unit) (n₀ := H) (w₀ := w) hH (by omega) () X Y row h6 hg hr⟩

theorem year_facts {n : Int} (h : -719162 ≤ n ∧ n ≤ 2932896) : (1 ≤ yearD n ∧ yearD n ≤ 9999) ∧ aheadD (yearD n) ≤ n + 719162 ∧ n + 719162 < aheadD (yearD n + 1) := by
  have he := aheadD_end
  obtain ⟨k, h1, h2, h3, h4⟩ := year_of h.1 9999 (by rw [show (((9999 : Nat) : Int) + 1) = 10000 by rfl]; omega)
  have e : yearD n = k := by
    unfold yearD
    rw [yearF_is h1 h3 h4 9999 h2]
  rw [e]
  exact ⟨by omega, by omega, by omega⟩

set_option maxRecDepth 100000 in
set_option maxHeartbeats 2000000 in
theorem civil_in (n : Int) (h : -719162 ≤ n ∧ n ≤ 2932896) (w : World) (hv : DV w) :
    Calls Tryz.prog 108 #[.int .i64 n] w fun e w' => e = .returned (.tuple #[.int .i64 (civV n).1, .int .i64 (civV n).2.1, .int .i64 (civV n).2.2.1, .bool (civV n).2.2.2]) ∧ Below w.heap.size w w' := by
  obtain ⟨hy, ha1, ha2⟩ := year_facts h
  have c1 := fun W => yearOf_any (n + 719162) (by omega) W
  rw [show n + 719162 - 719162 = n by omega] at c1
  generalize hyn : yearD n = y at hy ha1 ha2 c1
  have c2 := fun W => ahead_any y (by omega) W
  have ha0 : 0 ≤ aheadD y ∧ aheadD y ≤ 3652059 := by
    have := aheadD_le (y := 1) (z := y) (by omega)
    have := aheadD_le (y := y) (z := 10000) (by omega)
    have := aheadD_one
    have := aheadD_end
    omega
  rw [aheadD_next] at ha2
  have HA := Lib.hid (show aheadD y = aheadD y from rfl)
  obtain ⟨a, hadef⟩ : ∃ a, aheadD y = a := ⟨_, rfl⟩
  rw [hadef] at ha1 ha2 c2 ha0
  have HAD := Lib.hid hadef
  have hr : 0 ≤ n + 719162 - a ∧ n + 719162 - a ≤ 3652058 := by omega
  have hrm : Hid (n + 719162 - a < monD (leapD y) 13) := Lib.hid (by omega)
  have b1 : ¬ n < -719162 := by omega
  have b2 : ¬ 2932896 < n := by omega
  have HY := Lib.hid hy
  have HLV := Lib.hid hv.len
  clear hv hadef HA ha1 ha2 hy
  refine (callsIn_wide (n := 3)).1 ?_
  refine callsIn_of_wp_marks Tryz.func108 rfl trivial ?_ rfl
  refine wpIn_wide.2 ?_
  simp only [Tryz.ntmps108, List.size_toArray, List.length_cons, List.length_nil, Nat.reduceAdd, Nat.reduceSub, Array.replicate_succ, Array.replicate_zero, List.push_toArray, List.append_toArray, List.nil_append, List.cons_append]
  go_wp2_with (first
    | (go_at_call 131; ((with_reducible refine (c1 _).mono ?_); rintro e w' ⟨rfl, hw⟩; subst w'))
    | (go_at_call 132; ((with_reducible refine (c2 _).mono ?_); rintro e w' ⟨rfl, hw⟩; subst w'))
    | (go_at_call 133; refine ((callsIn_wide (n := 2)).1 (mthsOf_in 2 _ _)).mono ?_; rintro e w' ⟨rfl, rfl⟩))
  refine (wpIn_wide (n := 3)).1 ?_
  obtain ⟨r, hrd⟩ : ∃ r, n + 719162 - a = r := ⟨_, rfl⟩
  rw [hrd] at hr hrm ⊢
  have HRD := Lib.hid hrd
  have HR := Lib.hid hr
  have hB0 : Below w.heap.size w (((w.alloc (.cells #[.int .i64 0] 3)).alloc (.cells #[.int .i64 r] 3)).alloc (.cells #[.int .i64 y] 3)) :=
    (((Below.refl _ w).alloc (Nat.le_refl _) _).alloc (by simp) _).alloc (by simp; omega) _
  have bM := ((Boxed.new w 3 (.int .i64 0)).alloc (.cells #[.int .i64 r] 3)).alloc (.cells #[.int .i64 y] 3)
  have bN := (Boxed.new (w.alloc (.cells #[.int .i64 0] 3)) 3 (.int .i64 r)).alloc (.cells #[.int .i64 y] 3)
  have bY := Boxed.new ((w.alloc (.cells #[.int .i64 0] 3)).alloc (.cells #[.int .i64 r] 3)) 3 (.int .i64 y)
  simp only [World.size_alloc] at bM bN bY
  have hLen := HLV.out.step hB0
  have hr0 := hr.1
  clear hrd hr c1 c2 b1 b2 ha0
  refine wpIn_rangeFunc_ownG rfl (by omega) (gf := 155) (lb := #[.pointer (some ⟨w.heap.size + 1 + 1, 0, none⟩)]) rfl trivial (enters_of Tryz.func155 (by kernel_rfl) rfl)
    (mths_stops 2 (by omega) (w.heap.size + 1 + 1) w.heap.size y _ (by simp) bY.cell hLen) KpM.trans (kpM_put (by simp; omega) (by simp)) (Below.refl _ _) (fun _ => rfl)
    (InvC y r w.heap.size w) (OutC y r w.heap.size w)
    (ownC (Nat.le_refl _) (by simp)) (ownCx (Nat.le_refl _) (by simp)) ⟨⟨0, bM⟩, by simpa [sumM] using bN, by simpa [sumM] using hr0, hB0⟩
    (fun i => { tmps := #[.int .i64 n, undef, .int .i64 0, .int .i64 0, .int .i64 0, .bool false, .int .i64 y, .pointer (some ⟨w.heap.size, 0, none⟩), .pointer (some ⟨w.heap.size + 1, 0, none⟩), .int .i64 ((i.val : Int) + 1), .int .i64 (lenD y ((i.val : Int) + 1)), .int .i64 n, .bool false, .bool false, .int .i64 n, .bool false, .bool false, .int .i64 n, .int .i64 (n + 719162), .int .i64 y, .int .i64 n, .int .i64 (n + 719162), .int .i64 y, .int .i64 a, .int .i64 r, .int .i64 y, .func (.func 155) #[] #[.pointer (some ⟨w.heap.size + 1 + 1, 0, none⟩)], .int .i64 ((i.val : Int) + 1), .int .i64 (lenD y ((i.val : Int) + 1)), undef, undef, undef, undef, undef, undef, undef, undef, undef, undef, undef], defers := [] }) ?assign ?body ?done ?stop
  case assign =>
    intro l i W K hK
    gi_wp2
    exact hK
  case body =>
    rintro l pre ⟨i, hi⟩ W ⟨⟨mv, hM⟩, hR, h0, hB⟩ hlt
    have cM := hM.cell
    have fM := hM.frozen
    have cR := hR.cell
    have fR := hR.frozen
    clear hB0 bM bN bY hLen
    dsimp only
    have hs := sumM_bound (y := y) pre
    have hpl : pre.length ≤ 12 := by have := cntM_le y; omega
    have hq : 0 ≤ lenD y ((i : Int) + 1) ∧ lenD y ((i : Int) + 1) ≤ 31 := by
      unfold lenD
      repeat (first | omega | split)
    have hsn := sumM_snoc y pre ⟨i, hi⟩
    dsimp only at hsn
    have hrr := HR.out
    obtain ⟨v, hvd⟩ : ∃ v, r - sumM y pre = v := ⟨_, rfl⟩
    rw [hvd] at cR hR h0
    have hv2 : v ≤ 3652058 := by omega
    by_cases he : v < lenD y ((i : Int) + 1)
    · have HVD := Lib.hid hvd
      have HQ := Lib.hid he
      obtain ⟨z, hz⟩ : ∃ z, lenD y ((i : Int) + 1) = z := ⟨_, rfl⟩
      rw [hz] at he ⊢
      clear hsn hs hq hpl hlt hvd hrr hz hv2
      gi_wp2
      exact ⟨(KeepsOthers.setCell _ _ _).from _, rfl, pre, ⟨i, hi⟩, rfl, hM.set _, by rw [HVD.out]; exact hR.other (by omega) _, by rw [HVD.out]; exact h0, by rw [HVD.out]; exact HQ.out, hB.trans (belowM_set (by omega) _ _)⟩
    · have hnew : r - sumM y (pre ++ [⟨i, hi⟩]) = v - lenD y ((i : Int) + 1) := by rw [hsn]; omega
      have HN := Lib.hid hnew
      have h0n : 0 ≤ v - lenD y ((i : Int) + 1) := by omega
      have H0N := Lib.hid h0n
      obtain ⟨z, hz⟩ : ∃ z, lenD y ((i : Int) + 1) = z := ⟨_, rfl⟩
      rw [hz] at he HN H0N hq ⊢
      clear hsn hs hpl hlt hvd hrr hz hnew h0n
      gi_wp2
      exact ⟨((KeepsOthers.setCell _ _ _).trans (KeepsOthers.setCell _ _ _)).from _, (kpM_set (by omega) (by omega)).trans (kpM_set (by omega) (by omega)), ⟨_, (hM.set _).other (by omega) _⟩, by rw [HN.out]; exact (hR.other (by omega) _).set _, by rw [HN.out]; exact H0N.out, (hB.trans (belowM_set (by omega) _ _)).trans (belowM_set (by omega) _ _)⟩
  case done =>
    rintro D ys W hD hys ⟨_, _, h0, _⟩ hK
    exfalso
    have hy := HY.out
    rw [hys, show cntM y = 12 by unfold cntM; rw [if_pos hy], sumM_mths hy 12 (Nat.le_refl _)] at h0
    have := hrm.out
    rw [show (((12 : Nat) : Int) + 1) = 13 by rfl] at h0
    omega
  case stop =>
    rintro D c pre W hD ⟨k, hk, rfl⟩ ⟨rfl, pre0, i, hpre, hM, hR, h0, hlt, hB⟩ hK
    have hk12 : k ≤ 12 := Nat.le_trans hk (cntM_le y)
    obtain ⟨hp0, _⟩ := mths_end hk12 hpre.symm
    have hsum : sumM y pre0 = monD (leapD y) ((i.val : Int) + 1) := by rw [hp0, sumM_mths HY.out i.val (by omega)]
    obtain ⟨v, hvd⟩ : ∃ v, r - sumM y pre0 = v := ⟨_, rfl⟩
    rw [hvd] at hR h0 hlt
    have hciv : civV n = (y, (i.val : Int) + 1, v + 1, true) := by
      rw [← civ_num (y := y) (m := (i.val : Int) + 1) (d := v + 1) (by unfold dateD; omega)]
      congr 1
      unfold numD
      rw [← hsum, HAD.out, ← HRD.out] at *
      have := HRD.out
      omega
    have HC := Lib.hid hciv
    have hv2 : v ≤ 3652058 := by
      have := sumM_bound (y := y) pre0
      have := HR.out
      omega
    obtain ⟨mi, hmi⟩ : ∃ mi : Int, (i.val : Int) + 1 = mi := ⟨_, rfl⟩
    rw [hmi] at hM HC
    clear hB0 bM bN bY hLen hpre hp0 hk hk12 hsum hciv hvd hlt hmi
    have cM := hM.cell
    have cR := hR.cell
    refine wpIn_wide.2 (wp_exit ?_)
    go_wp2
    go_quiet (fail)
    go_wp2
    refine ⟨by simp, .inl ⟨_, _, rfl, run_takeDeferred (show (W.drewN nq).heap[D]? = some (.deferred (some [])) from hK), ?_⟩⟩
    refine ⟨_, results_tmp4 rfl _ _ _, by rw [HC.out]; rfl, (hB.trans (show Below w.heap.size W (W.drewN nq) from ⟨rfl, rfl, rfl, Nat.le_refl _, fun _ _ => rfl⟩)).trans (belowM_put (z := w.heap.size) (Nat.le_refl _) (by simp at hD; omega) (W.drewN nq) _ _ hK rfl)⟩

set_option maxRecDepth 100000 in
set_option maxHeartbeats 2000000 in
theorem pCivil_any (n : Int) (_hn : -9223372036854775808 ≤ n ∧ n < 9223372036854775808) (w : World) (hv : DV w) :
    Calls Tryz.prog 108 #[.int .i64 n] w fun e w' => e = .returned (.tuple #[.int .i64 (civV n).1, .int .i64 (civV n).2.1, .int .i64 (civV n).2.2.1, .bool (civV n).2.2.2]) ∧ Below w.heap.size w w' := by
  by_cases h : -719162 ≤ n ∧ n ≤ 2932896
  · exact civil_in n h w hv
  · have HB := Lib.hid (civ_bad (n := n) (by omega))
    clear hv
    by_cases h1 : n < -719162
    · clear h
      go_enter Tryz.func108, Tryz.ntmps108
      go_wp2
      (try simp only [Exit.inBlock, Exit.then]); refine bodyPost_ret (results_tmp4 rfl _ _ _) rfl ?_
      exact ⟨by rw [HB.out]; rfl, Below.refl _ _⟩
    · have h2 : 2932896 < n := by omega
      clear h
      go_enter Tryz.func108, Tryz.ntmps108
      go_wp2
      (try simp only [Exit.inBlock, Exit.then]); refine bodyPost_ret (results_tmp4 rfl _ _ _) rfl ?_
      exact ⟨by rw [HB.out]; rfl, Below.refl _ _⟩

end Go.Proofs.YtnidkcedomhofaaGreatDoor

/-
  The program's own functions of layer 10: numbers with noughts ahead, a day and a time as a text.
-/
namespace Go.Proofs.YtnidkcedomhofaaGreatDoor
open Go.RowKit

open Go.Sort in
theorem below_growD (B : Nat) (w : World) (hB : B ≤ w.heap.size) (k : Nat) (os : Array Obj) : Below B w (grow (w.drewN k) os) :=
  ⟨rfl, rfl, rfl, by simp [grow, World.drewN], fun b hb => by
    show (w.heap ++ os)[b]? = w.heap[b]?
    rw [Array.getElem?_append_left (by omega)]⟩
theorem rep_len : ∀ c, (Lib.repeatL [48] c) = List.replicate c 48
  | 0 => rfl
  | c + 1 => by rw [Lib.repeatL, rep_len c]; rfl
theorem padT_zero : ∀ k, padT k 0 = List.replicate k 48
  | 0 => rfl
  | k + 1 => by rw [padT, Nat.zero_div, padT_zero k, List.replicate_succ']; rfl
theorem digC_is (n : Nat) : digC n = UInt8.ofNat (48 + n % 10) := rfl
/-- A number with noughts ahead is noughts, and the number. -/
theorem pad_dec : ∀ k n, 1 ≤ k → n < 10 ^ k → (Lib.decDigits n).length ≤ k ∧ padT k n = List.replicate (k - (Lib.decDigits n).length) 48 ++ Lib.decDigits n
  | 0, n, h, _ => by omega
  | k + 1, n, _, hn => by
    by_cases h : n < 10
    · have e : Lib.decDigits n = [digC n] := by rw [Lib.decDigits, dif_pos h, digC_is, Nat.mod_eq_of_lt h]
      rw [e, padT, Nat.div_eq_of_lt h, padT_zero]
      exact ⟨by simp, rfl⟩
    · have e : Lib.decDigits n = Lib.decDigits (n / 10) ++ [digC n] := by rw [Lib.decDigits, dif_neg h, digC_is]
      have hk : 1 ≤ k := by
        rcases Nat.eq_zero_or_pos k with h0 | h0
        · subst h0; simp at hn; omega
        · exact h0
      obtain ⟨h1, h2⟩ := pad_dec k (n / 10) hk (by rw [Nat.pow_succ] at hn; omega)
      rw [e, padT, h2, List.length_append]
      exact ⟨by simpa using h1, by rw [List.append_assoc]; simp⟩

set_option maxRecDepth 100000 in
set_option maxHeartbeats 2000000 in
theorem digits_any (n k : Nat) (hk : 1 ≤ k ∧ k ≤ 4) (hn : n < 10 ^ k) (w : World) (hv : DV w) :
    Calls Tryz.prog 109 #[.int .i64 n, .int .i64 k] w fun e w' => e = .returned (.string ⟨(padT k n).toArray⟩) ∧ Below w.heap.size w w' := by
  have hn4 : n < 10 ^ 4 := Nat.lt_of_lt_of_le hn (Nat.pow_le_pow_right (by omega) hk.2)
  have hn5 : n < 10000 := by simpa using hn4
  obtain ⟨h1, h2⟩ := pad_dec k n hk.1 hn
  have c1 : Calls Tryz.prog 36 #[.int .i64 n] w fun e w' => e = .returned (.string ⟨(Lib.itoa n).toArray⟩) ∧ Below w.heap.size w w' := (Tryz.strconv_Itoa n (by omega) (by omega) w hv.tab).mono fun e w' ⟨he, k, os, hw⟩ => ⟨he, by rw [hw]; exact below_growD _ _ (Nat.le_refl _) _ _⟩
  have e0 : Lib.itoa (n : Int) = Lib.decDigits n := by unfold Lib.itoa; rw [if_neg (by omega)]; rfl
  rw [e0] at c1
  obtain ⟨c, hc⟩ : ∃ c, c = k - (Lib.decDigits n).length := ⟨_, rfl⟩
  have c2 := fun W => Tryz.strings_Repeat ⟨#[48]⟩ c W (by omega) (by rw [show (⟨#[48]⟩ : ByteArray).size = 1 from rfl]; omega)
  rw [show (⟨#[48]⟩ : ByteArray).data.toList = [48] from rfl, rep_len] at c2
  have HE := Lib.hid (show (⟨(List.replicate c 48).toArray⟩ : ByteArray) ++ ⟨(Lib.decDigits n).toArray⟩ = ⟨(padT k n).toArray⟩ by rw [mk_app, h2, hc])
  have s1 : ((⟨(Lib.decDigits n).toArray⟩ : ByteArray).size : Int) = (k : Int) - (c : Int) := by rw [mk_size]; omega
  have s2 : (⟨(List.replicate c 48).toArray⟩ : ByteArray).size = c := by rw [mk_size, List.length_replicate]
  have hck : c ≤ k := by omega
  clear h1 h2 hc e0 hn hn4
  generalize (⟨(Lib.decDigits n).toArray⟩ : ByteArray) = a at *
  generalize (⟨(List.replicate c 48).toArray⟩ : ByteArray) = b at *
  have s3 : (k : Int) - (a.size : Int) = (c : Int) := by omega
  have no : ¬ 9223372036854775807 < b.size + a.size := by omega
  clear s1
  go_enter Tryz.func109, Tryz.ntmps109
  go_wp2_with (first
    | (go_at_call 36; ((with_reducible refine c1.mono ?_); rintro e w1 ⟨rfl, hb1⟩))
    | (go_at_call 134; ((with_reducible refine (c2 _).mono ?_); rintro e w2 ⟨rfl, hb2⟩)))
  go_ret
  exact ⟨by rw [← HE.out]; rfl, bstep hb1 hb2⟩
theorem dig2_any (n : Nat) (hn : n < 100) (w : World) (hv : DV w) : Calls Tryz.prog 109 #[.int .i64 n, .int .i64 2] w fun e w' => e = .returned (.string ⟨(padT 2 n).toArray⟩) ∧ Below w.heap.size w w' :=
  digits_any n 2 (by omega) (by omega) w hv
theorem dig4_any (n : Nat) (hn : n < 10000) (w : World) (hv : DV w) : Calls Tryz.prog 109 #[.int .i64 n, .int .i64 4] w fun e w' => e = .returned (.string ⟨(padT 4 n).toArray⟩) ∧ Below w.heap.size w w' :=
  digits_any n 4 (by omega) (by omega) w hv

end Go.Proofs.YtnidkcedomhofaaGreatDoor

/-
  The program's own functions of layer 10: a clock, a day, and a stamp.
-/
namespace Go.Proofs.YtnidkcedomhofaaGreatDoor
open Go.RowKit

set_option maxRecDepth 100000 in
set_option maxHeartbeats 2000000 in
theorem clock_any (s : Nat) (hs2 : s < 86400) (sep : List UInt8) (hsep : sep.length ≤ 8) (w : World) (hv : DV w) :
    Calls Tryz.prog 107 #[.int .i64 s, .string ⟨sep.toArray⟩] w fun e w' => e = .returned (.string ⟨(clkT sep s).toArray⟩) ∧ Below w.heap.size w w' := by
  have c1 := dig2_any (s / 3600) (by omega)
  have c2 := dig2_any (s % 3600 / 60) (by omega)
  have c3 := dig2_any (s % 60) (by omega)
  have m1 : Int.tdiv (s : Int) 3600 = ((s / 3600 : Nat) : Int) := by rw [tdiv_pos (by omega)]; omega
  have m2 : Int.tmod (s : Int) 3600 = ((s % 3600 : Nat) : Int) := by rw [tmod_pos (by omega)]; omega
  have m3 : Int.tdiv ((s % 3600 : Nat) : Int) 60 = ((s % 3600 / 60 : Nat) : Int) := by rw [tdiv_pos (by omega)]; omega
  have m4 : Int.tmod (s : Int) 60 = ((s % 60 : Nat) : Int) := by rw [tmod_pos (by omega)]; omega
  have HE := Lib.hid (show (⟨(padT 2 (s / 3600)).toArray⟩ : ByteArray) ++ ⟨sep.toArray⟩ ++ ⟨(padT 2 (s % 3600 / 60)).toArray⟩ ++ ⟨sep.toArray⟩ ++ ⟨(padT 2 (s % 60)).toArray⟩ = ⟨(clkT sep s).toArray⟩ by
    simp only [mk_app]
    unfold clkT
    rw [show s % 3600 / 60 = s / 60 % 60 by omega])
  have s0 : (⟨sep.toArray⟩ : ByteArray).size = sep.length := mk_size _
  have s1 : (⟨(padT 2 (s / 3600)).toArray⟩ : ByteArray).size = 2 := by rw [mk_size, padT_length]
  have s2 : (⟨(padT 2 (s % 3600 / 60)).toArray⟩ : ByteArray).size = 2 := by rw [mk_size, padT_length]
  have s3 : (⟨(padT 2 (s % 60)).toArray⟩ : ByteArray).size = 2 := by rw [mk_size, padT_length]
  generalize (⟨(padT 2 (s / 3600)).toArray⟩ : ByteArray) = a at *
  generalize (⟨(padT 2 (s % 3600 / 60)).toArray⟩ : ByteArray) = b at *
  generalize (⟨(padT 2 (s % 60)).toArray⟩ : ByteArray) = c at *
  generalize (⟨sep.toArray⟩ : ByteArray) = p at *
  have no0 : ¬ 9223372036854775807 < a.size + p.size := by omega
  have no1 : ¬ 9223372036854775807 < (a ++ p).size + b.size := by rw [ByteArray.size_append]; omega
  have no2 : ¬ 9223372036854775807 < (a ++ p ++ b).size + p.size := by rw [ByteArray.size_append, ByteArray.size_append]; omega
  have no3 : ¬ 9223372036854775807 < (a ++ p ++ b ++ p).size + c.size := by rw [ByteArray.size_append, ByteArray.size_append, ByteArray.size_append]; omega
  have k1 : s / 3600 < 86400 := by omega
  have k2 : s % 3600 < 86400 := by omega
  have k3 : s % 3600 / 60 < 60 := by omega
  have k4 : s % 60 < 60 := by omega
  generalize s / 3600 = x1 at *
  generalize s % 3600 / 60 = x3 at *
  generalize s % 3600 = x2 at *
  generalize s % 60 = x4 at *
  clear hsep s0
  go_enter Tryz.func107, Tryz.ntmps107
  go_wp2_with (first
    | (go_at_call 109; ((with_reducible refine (c1 _ (by assumption)).mono ?_); rintro e w1 ⟨rfl, hb1⟩; have hv1 := DV.step hv hb1))
    | (go_at_call 109; ((with_reducible refine (c2 _ (by assumption)).mono ?_); rintro e w2 ⟨rfl, hb2⟩; have hv2 := DV.step hv1 hb2))
    | (go_at_call 109; ((with_reducible refine (c3 _ (by assumption)).mono ?_); rintro e w3 ⟨rfl, hb3⟩)))
  go_ret
  exact ⟨by rw [← HE.out]; rfl, bstep (bstep hb1 hb2) hb3⟩

set_option maxRecDepth 100000 in
set_option maxHeartbeats 2000000 in
theorem pDay_any (n : Int) (hn : -9223372036854775808 ≤ n ∧ n < 9223372036854775808) (w : World) (hv : DV w) :
    Calls Tryz.prog 74 #[.int .i64 n] w fun e w' => e = .returned (.string ⟨(dayT n).toArray⟩) ∧ Below w.heap.size w w' := by
  have hc := pCivil_any n hn w hv
  by_cases h : n < -719162 ∨ 2932896 < n
  · have e : Hid (dayT n = []) := Lib.hid (dayT_bad h)
    rw [civ_bad h] at hc
    clear hn h
    go_enter Tryz.func74, Tryz.ntmps74
    go_wp2_with (go_at_call 108; ((with_reducible refine hc.mono ?_); rintro e w1 ⟨rfl, hb1⟩))
    go_ret
    exact ⟨by rw [e.out]; rfl, hb1⟩
  · obtain ⟨y, m, d, hd, rfl⟩ := num_of (n := n) (by omega)
    obtain ⟨hy, hm⟩ := lenD_range hd
    have hp := lenD_pos hy hm
    have e : Hid (dayT (numD y m d) = padT 4 y.toNat ++ padT 2 m.toNat ++ padT 2 d.toNat) := Lib.hid (by unfold dayT; rw [civ_num hd]; rfl)
    rw [civ_num hd] at hc
    generalize numD y m d = n at *
    unfold dateD at hd
    obtain ⟨Y, rfl⟩ : ∃ k : Nat, y = k := ⟨y.toNat, by omega⟩
    obtain ⟨M, rfl⟩ : ∃ k : Nat, m = k := ⟨m.toNat, by omega⟩
    obtain ⟨D, rfl⟩ : ∃ k : Nat, d = k := ⟨d.toNat, by omega⟩
    have c1 := dig4_any Y (by omega)
    have c2 := dig2_any M (by omega)
    have c3 := dig2_any D (by omega)
    have HE := Lib.hid (show (⟨(padT 4 Y).toArray⟩ : ByteArray) ++ ⟨(padT 2 M).toArray⟩ ++ ⟨(padT 2 D).toArray⟩ = ⟨(dayT n).toArray⟩ by rw [mk_app, mk_app, e.out]; rfl)
    have s1 : (⟨(padT 4 Y).toArray⟩ : ByteArray).size = 4 := by rw [mk_size, padT_length]
    have s2 : (⟨(padT 2 M).toArray⟩ : ByteArray).size = 2 := by rw [mk_size, padT_length]
    have s3 : (⟨(padT 2 D).toArray⟩ : ByteArray).size = 2 := by rw [mk_size, padT_length]
    generalize (⟨(padT 4 Y).toArray⟩ : ByteArray) = a at *
    generalize (⟨(padT 2 M).toArray⟩ : ByteArray) = b at *
    generalize (⟨(padT 2 D).toArray⟩ : ByteArray) = c at *
    have no1 : ¬ 9223372036854775807 < a.size + b.size := by omega
    have no2 : ¬ 9223372036854775807 < (a ++ b).size + c.size := by rw [ByteArray.size_append]; omega
    go_enter Tryz.func74, Tryz.ntmps74
    go_wp2_with (first
      | (go_at_call 108; ((with_reducible refine hc.mono ?_); rintro e w0 ⟨rfl, hb0⟩; have hv0 := DV.step hv hb0))
      | (go_at_call 109; ((with_reducible refine (c1 _ (by assumption)).mono ?_); rintro e w1 ⟨rfl, hb1⟩; have hv1 := DV.step hv0 hb1))
      | (go_at_call 109; ((with_reducible refine (c2 _ (by assumption)).mono ?_); rintro e w2 ⟨rfl, hb2⟩; have hv2 := DV.step hv1 hb2))
      | (go_at_call 109; ((with_reducible refine (c3 _ (by assumption)).mono ?_); rintro e w3 ⟨rfl, hb3⟩)))
    go_ret
    exact ⟨by rw [← HE.out]; rfl, bstep (bstep (bstep hb0 hb1) hb2) hb3⟩

set_option maxRecDepth 100000 in
set_option maxHeartbeats 2000000 in
theorem pStamp_any (t : Int) (ht : -9223372036854775808 ≤ t ∧ t < 9223372036854775808) (w : World) (hv : DV w) :
    Calls Tryz.prog 72 #[.int .i64 t] w fun e w' => e = .returned (.string ⟨(stampT t).toArray⟩) ∧ Below w.heap.size w w' := by
  have ci := fun W => in_any t W
  have cp := fun W => parts_any t ht W
  cases hin : inD t
  · rw [hin] at ci
    have e : Hid (stampT t = []) := Lib.hid (by unfold stampT; rw [hin]; rfl)
    clear hin ht cp
    go_enter Tryz.func72, Tryz.ntmps72
    go_wp2_with (go_at_call 106; ((with_reducible refine (ci _).mono ?_); rintro e w' ⟨rfl, hw⟩; subst w'))
    go_ret
    exact ⟨by rw [e.out]; rfl, Below.refl _ _⟩
  · rw [hin] at ci
    have hd := inD_day hin
    obtain ⟨s, hs⟩ : ∃ s : Nat, t % 86400 = s := ⟨(t % 86400).toNat, by omega⟩
    have hs2 := clk_parts s hs
    have cd := fun W (h : DV W) => pDay_any (t / 86400) (by omega) W h
    have ck := clock_any s hs2 [] (by decide)
    have e : Hid (stampT t = dayT (t / 86400) ++ [84] ++ clkT [] s) := Lib.hid (by unfold stampT; rw [hin, hs]; rfl)
    have sd : (⟨(dayT (t / 86400)).toArray⟩ : ByteArray).size = 8 := by rw [mk_size, dayT_length hd]
    have HE := Lib.hid (show (⟨(dayT (t / 86400)).toArray⟩ : ByteArray) ++ ⟨#[84]⟩ ++ ⟨(clkT [] s).toArray⟩ = ⟨(stampT t).toArray⟩ by
      rw [show (⟨#[84]⟩ : ByteArray) = ⟨([84] : List UInt8).toArray⟩ from rfl, mk_app, mk_app, e.out])
    have sc : (⟨(clkT [] s).toArray⟩ : ByteArray).size = 6 := by rw [mk_size]; unfold clkT; simp [padT_length]
    rw [hs] at cp
    rw [show (⟨([] : List UInt8).toArray⟩ : ByteArray) = ⟨#[]⟩ from rfl] at ck
    clear hd hs hin e hs2
    generalize (⟨(dayT (t / 86400)).toArray⟩ : ByteArray) = d at *
    generalize (⟨(clkT [] s).toArray⟩ : ByteArray) = c at *
    generalize t / 86400 = q at *
    have no0 : ¬ 9223372036854775807 < d.size + (⟨#[84]⟩ : ByteArray).size := by rw [sd]; decide
    have no1 : ¬ 9223372036854775807 < (d ++ (⟨#[84]⟩ : ByteArray)).size + c.size := by rw [ByteArray.size_append, sd, sc]; decide
    go_enter Tryz.func72, Tryz.ntmps72
    go_wp2_with (first
      | (go_at_call 106; ((with_reducible refine (ci _).mono ?_); rintro e w' ⟨rfl, hw⟩; subst w'))
      | (go_at_call 73; ((with_reducible refine (cp _).mono ?_); rintro e w' ⟨rfl, hw⟩; subst w'))
      | (go_at_call 74; ((with_reducible refine (cd _ (by assumption)).mono ?_); rintro e w0 ⟨rfl, hb0⟩; have hv0 := DV.step hv hb0))
      | (go_at_call 107; ((with_reducible refine (ck _ (by assumption)).mono ?_); rintro e w1 ⟨rfl, hb1⟩)))
    go_ret
    exact ⟨by rw [← HE.out]; rfl, bstep hb0 hb1⟩

end Go.Proofs.YtnidkcedomhofaaGreatDoor
