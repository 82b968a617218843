/-
  The program's own functions of layer 13: a duration and an offset, written; an offset, read.
-/
import Derived.Test.YtdilnofolnabdaaGreatDoorG13
import Derived.Test.YtdilnofolnabdaaGreatDoorG14
import Derived.Test.YtdilnofolnabdaaGreatDoorG18
namespace Go.Proofs.YtdilnofolnabdaaGreatDoor
open Go.RowKit

theorem bytesV {a b : ByteArray} (h : a.data.toList = b.data.toList) : a = b := by apply ByteArray.ext; rwa [← Array.toList_inj]
theorem app_list (a b : ByteArray) : (a ++ b).data.toList = a.data.toList ++ b.data.toList := by rw [ByteArray.data_append, Array.toList_append]
set_option maxRecDepth 100000 in
set_option maxHeartbeats 2000000 in
theorem counted_any (n : Nat) (hn : n ≤ 1000000000000) (c : UInt8) (w : World) (hv : DV w) :
    Calls Tryz.prog 15 #[.int .i64 n, .string ⟨#[c]⟩] w fun e w' => e = .returned (.string ⟨(Lib.decDigits n ++ [c]).toArray⟩) ∧ Below w.heap.size w w' := by
  have c1 : Calls Tryz.prog 33 #[.int .i64 n, .int .i64 10] w fun e w' => e = .returned (.string ⟨(Lib.itoa n).toArray⟩) ∧ Below w.heap.size w w' := (Tryz.strconv_FormatInt_10 n (by omega) (by omega) w hv.tab).mono fun e w' ⟨he, k, os, hw⟩ => ⟨he, by rw [hw]; exact below_growD _ _ (Nat.le_refl _) _ _⟩
  have e0 : Lib.itoa (n : Int) = Lib.decDigits n := by unfold Lib.itoa; rw [if_neg (by omega)]; rfl
  rw [e0] at c1
  have hl := dec_len 12 n (by omega)
  have HE := Lib.hid (show (⟨(Lib.decDigits n).toArray⟩ : ByteArray) ++ ⟨#[c]⟩ = ⟨(Lib.decDigits n ++ [c]).toArray⟩ from mk_app _ [c])
  have no : ¬ 9223372036854775807 < (⟨(Lib.decDigits n).toArray⟩ : ByteArray).size + 1 := by rw [mk_size]; omega
  generalize (⟨(Lib.decDigits n).toArray⟩ : ByteArray) = a at *
  clear e0 hl hv
  go_enter Tryz.func15, Tryz.ntmps15
  go_wp2_with (go_at_call 33; refine c1.mono ?_; rintro e w1 ⟨rfl, hb1⟩)
  go_ret
  exact ⟨by rw [← HE.out]; rfl, hb1⟩
theorem dec_mk (n : Nat) (c : UInt8) : (⟨(Lib.decDigits n ++ [c]).toArray⟩ : ByteArray).data.toList = Lib.decDigits n ++ [c] := by simp
set_option maxRecDepth 100000 in
set_option maxHeartbeats 4000000 in
theorem pClock_any (n : Nat) (hn : n < 86400) (w : World) (hv : DV w) :
    Calls Tryz.prog 16 #[.int .i64 n] w fun e w' => e = .returned (.string ⟨(clkQ n).toArray⟩) ∧ Below w.heap.size w w' ∧ (clkQ n).length ≤ 30 := by
  have c1 := fun W (hV : DV W) => counted_any (n / 3600) (by omega) 72 W hV
  have c2 := fun W (hV : DV W) => counted_any (n % 3600 / 60) (by omega) 77 W hV
  have c3 := fun W (hV : DV W) => counted_any (n % 60) (by omega) 83 W hV
  have m1 : Int.tdiv (n : Int) 3600 = ((n / 3600 : Nat) : Int) := by rw [tdiv_pos (by omega)]; omega
  have m2 : Int.tmod (n : Int) 3600 = ((n % 3600 : Nat) : Int) := by rw [tmod_pos (by omega)]; omega
  have m3 : Int.tdiv ((n % 3600 : Nat) : Int) 60 = ((n % 3600 / 60 : Nat) : Int) := by rw [tdiv_pos (by omega)]; omega
  have m4 : Int.tmod (n : Int) 60 = ((n % 60 : Nat) : Int) := by rw [tmod_pos (by omega)]; omega
  have HQ : Hid (clkQ n = (if 0 < n / 3600 then Lib.decDigits (n / 3600) ++ [72] else []) ++ ((if 0 < n % 3600 / 60 ∨ (0 < n / 3600 ∧ 0 < n % 60) then Lib.decDigits (n % 3600 / 60) ++ [77] else []) ++ (if 0 < n % 60 ∨ (n / 3600 = 0 ∧ n % 3600 / 60 = 0) then Lib.decDigits (n % 60) ++ [83] else []))) := Lib.hid (by
    unfold clkQ
    rw [show n / 60 % 60 = n % 3600 / 60 by omega])
  have l1 := dec_len 4 (n / 3600) (by omega)
  have l2 := dec_len 4 (n % 3600 / 60) (by omega)
  have l3 := dec_len 4 (n % 60) (by omega)
  have HLQ : Hid ((clkQ n).length ≤ 30) := Lib.hid (by
    rw [HQ.out, List.length_append, List.length_append]
    have q1 : ∀ (p : Prop) [Decidable p] (x : List UInt8) (c : UInt8), x.length ≤ 5 → (if p then x ++ [c] else []).length ≤ 6 := fun p _ x c h => by split <;> simp <;> omega
    have := q1 (0 < n / 3600) _ 72 l1
    have := q1 (0 < n % 3600 / 60 ∨ (0 < n / 3600 ∧ 0 < n % 60)) _ 77 l2
    have := q1 (0 < n % 60 ∨ (n / 3600 = 0 ∧ n % 3600 / 60 = 0)) _ 83 l3
    omega)
  have A1 := Lib.hid (dec_mk (n / 3600) 72)
  have A2 := Lib.hid (dec_mk (n % 3600 / 60) 77)
  have A3 := Lib.hid (dec_mk (n % 60) 83)
  have s1 : (⟨(Lib.decDigits (n / 3600) ++ [72]).toArray⟩ : ByteArray).size ≤ 6 := by rw [mk_size, List.length_append]; simp; omega
  have s2 : (⟨(Lib.decDigits (n % 3600 / 60) ++ [77]).toArray⟩ : ByteArray).size ≤ 6 := by rw [mk_size, List.length_append]; simp; omega
  have s3 : (⟨(Lib.decDigits (n % 60) ++ [83]).toArray⟩ : ByteArray).size ≤ 6 := by rw [mk_size, List.length_append]; simp; omega
  have ne : ∀ (k : Nat) (c : UInt8), (⟨(Lib.decDigits k ++ [c]).toArray⟩ : ByteArray).toList.isEmpty = false := fun k c => by rw [ByteArray.toList_eq]; simp
  have E1 := ne (n / 3600) 72
  have E2 := ne (n % 3600 / 60) 77
  have k1 : n / 3600 < 86400 := by omega
  have k3 : n % 3600 / 60 < 60 := by omega
  have k4 : n % 60 < 60 := by omega
  generalize (⟨(Lib.decDigits (n / 3600) ++ [72]).toArray⟩ : ByteArray) = a1 at *
  generalize (⟨(Lib.decDigits (n % 3600 / 60) ++ [77]).toArray⟩ : ByteArray) = a2 at *
  generalize (⟨(Lib.decDigits (n % 60) ++ [83]).toArray⟩ : ByteArray) = a3 at *
  generalize n / 3600 = x1 at *
  generalize n % 3600 / 60 = x3 at *
  generalize n % 3600 = x2 at *
  generalize n % 60 = x4 at *
  have no1 : ¬ 9223372036854775807 < ((⟨#[]⟩ : ByteArray) ++ a1).size + a2.size := by simp only [ByteArray.size_append, show (⟨#[]⟩ : ByteArray).size = 0 from rfl]; omega
  have no2 : ¬ 9223372036854775807 < ((⟨#[]⟩ : ByteArray) ++ a1 ++ a2).size + a3.size := by simp only [ByteArray.size_append, show (⟨#[]⟩ : ByteArray).size = 0 from rfl]; omega
  have no3 : ¬ 9223372036854775807 < ((⟨#[]⟩ : ByteArray) ++ a2).size + a3.size := by simp only [ByteArray.size_append, show (⟨#[]⟩ : ByteArray).size = 0 from rfl]; omega
  have no4 : ¬ 9223372036854775807 < ((⟨#[]⟩ : ByteArray) ++ a1).size + a3.size := by simp only [ByteArray.size_append, show (⟨#[]⟩ : ByteArray).size = 0 from rfl]; omega
  have no5 : ¬ 9223372036854775807 < a1.size := by omega
  have no6 : ¬ 9223372036854775807 < a2.size := by omega
  have no7 : ¬ 9223372036854775807 < a3.size := by omega
  have ee : ∀ x y : ByteArray, y.toList.isEmpty = false → (x ++ y).toList.isEmpty = false := fun x y h => by
    rw [ByteArray.toList_eq] at h ⊢
    rw [app_list]
    cases hx : x.data.toList
    · simpa using h
    · rfl
  have E3 := ee (⟨#[]⟩ : ByteArray) a1 E1
  have E4 := ee (⟨#[]⟩ : ByteArray) a2 E2
  have E5 := ee ((⟨#[]⟩ : ByteArray) ++ a1) a2 E2
  clear l1 l2 l3 s1 s2 s3 ne ee
  have HVV := Lib.hid hv
  clear hv
  rcases Nat.eq_zero_or_pos x1 with h1 | h1 <;> rcases Nat.eq_zero_or_pos x3 with h3 | h3 <;> rcases Nat.eq_zero_or_pos x4 with h4 | h4
  all_goals
    have HP := Lib.hid (And.intro h1 (And.intro h3 h4))
    have i1 : (0 : Int) ≤ (x1 : Int) := by omega
    first
      | (have j1 : (x1 : Int) = 0 := by omega
         skip)
      | (have j1 : (0 : Int) < (x1 : Int) := by omega
         skip)
    first
      | (have j3 : (x3 : Int) = 0 := by omega
         skip)
      | (have j3 : (0 : Int) < (x3 : Int) := by omega
         skip)
    first
      | (have j4 : (x4 : Int) = 0 := by omega
         skip)
      | (have j4 : (0 : Int) < (x4 : Int) := by omega
         skip)
    clear i1
    try subst h1
    try subst h3
    try subst h4
    try (have c1 : ∀ W, DV W → Calls Tryz.prog 15 #[.int .i64 0, .string ⟨#[72]⟩] W (fun e w' => e = .returned (.string a1) ∧ Below W.heap.size W w') := c1)
    try (have c2 : ∀ W, DV W → Calls Tryz.prog 15 #[.int .i64 0, .string ⟨#[77]⟩] W (fun e w' => e = .returned (.string a2) ∧ Below W.heap.size W w') := c2)
    try (have c3 : ∀ W, DV W → Calls Tryz.prog 15 #[.int .i64 0, .string ⟨#[83]⟩] W (fun e w' => e = .returned (.string a3) ∧ Below W.heap.size W w') := c3)
    try clear j1
    go_enter Tryz.func16, Tryz.ntmps16
    go_wp2_with (first
      | (go_at_call 15; ((with_reducible refine (c1 _ HVV.out).mono ?_); rintro e w1 ⟨rfl, hb1⟩))
      | (go_at_call 15; ((with_reducible refine (c2 _ (HVV.out.step hb1)).mono ?_); rintro e w2 ⟨rfl, hb2⟩))
      | (go_at_call 15; ((with_reducible refine (c2 _ HVV.out).mono ?_); rintro e w2 ⟨rfl, hb2⟩))
      | (go_at_call 15; ((with_reducible refine (c3 _ (HVV.out.step (bstep hb1 hb2))).mono ?_); rintro e w3 ⟨rfl, hb3⟩))
      | (go_at_call 15; ((with_reducible refine (c3 _ (HVV.out.step hb2)).mono ?_); rintro e w3 ⟨rfl, hb3⟩))
      | (go_at_call 15; ((with_reducible refine (c3 _ HVV.out).mono ?_); rintro e w3 ⟨rfl, hb3⟩)))
    go_ret
    refine ⟨?_, ?_, HLQ.out⟩
    · show Ending.returned (Value.string _) = Ending.returned (Value.string _)
      congr 2
      apply bytesV
      obtain ⟨g1, g3, g4⟩ := HP.out
      first | (simp [HQ.out, A1.out, A2.out, A3.out, g1, g3, g4]; done) | (simp [HQ.out, A1.out, A2.out, g1, g3]; omega)
    · first
        | exact bstep (bstep hb1 hb2) hb3
        | exact bstep hb1 hb2
        | exact bstep hb2 hb3
        | exact hb1
        | exact hb2
        | exact hb3
/-! DURATIONTEXT -/
theorem clkQ_len (n : Nat) (hn : n < 86400) : (clkQ n).length ≤ 30 := by
  have l1 := dec_len 4 (n / 3600) (by omega)
  have l2 := dec_len 4 (n / 60 % 60) (by omega)
  have l3 := dec_len 4 (n % 60) (by omega)
  unfold clkQ
  rw [List.length_append, List.length_append]
  have q1 : ∀ (p : Prop) [Decidable p] (x : List UInt8) (c : UInt8), x.length ≤ 5 → (if p then x ++ [c] else []).length ≤ 6 := fun p _ x c h => by split <;> simp <;> omega
  have := q1 (0 < n / 3600) _ 72 l1
  have := q1 (0 < n / 60 % 60 ∨ (0 < n / 3600 ∧ 0 < n % 60)) _ 77 l2
  have := q1 (0 < n % 60 ∨ (n / 3600 = 0 ∧ n / 60 % 60 = 0)) _ 83 l3
  omega
set_option maxRecDepth 100000 in
set_option maxHeartbeats 4000000 in
theorem durText_pos (m : Nat) (hm : m ≤ 1000000000) (w : World) (hv : DV w) :
    Calls Tryz.prog 4 #[.int .i64 ((m : Int))] w fun e w' => e = .returned (.string ⟨([80] ++ bodyT m).toArray⟩) ∧ Below w.heap.size w w' := by
  have c1 := fun W (hV : DV W) => counted_any (m / 604800) (by omega) 87 W hV
  have c2 := fun W (hV : DV W) => counted_any (m / 86400) (by omega) 68 W hV
  have c3 := fun W (hV : DV W) => pClock_any (m % 86400) (by omega) W hV
  have l1 := dec_len 6 (m / 604800) (by omega)
  have l2 := dec_len 6 (m / 86400) (by omega)
  have m1 : Int.tdiv (m : Int) 86400 = ((m / 86400 : Nat) : Int) := by rw [tdiv_pos (by omega)]; omega
  have m2 : Int.tmod (m : Int) 86400 = ((m % 86400 : Nat) : Int) := by rw [tmod_pos (by omega)]; omega
  have m3 : Int.tdiv (m : Int) 604800 = ((m / 604800 : Nat) : Int) := by rw [tdiv_pos (by omega)]; omega
  have m4 : Int.tmod (m : Int) 604800 = ((m % 604800 : Nat) : Int) := by rw [tmod_pos (by omega)]; omega
  have HQ : Hid (bodyT m = if 0 < m ∧ m % 604800 = 0 then Lib.decDigits (m / 604800) ++ [87] else (if 0 < m / 86400 then Lib.decDigits (m / 86400) ++ [68] else []) ++ (if m % 86400 = 0 ∧ 0 < m then [] else 84 :: clkQ (m % 86400))) := Lib.hid rfl
  have hcl : (clkQ (m % 86400)).length ≤ 30 := by
    obtain ⟨e, w', _, h, _⟩ : ∃ (e : Unit) (w' : Unit), True ∧ (clkQ (m % 86400)).length ≤ 30 ∧ True := ⟨(), (), trivial, clkQ_len _ (by omega), trivial⟩
    exact h
  have A1 := Lib.hid (dec_mk (m / 604800) 87)
  have A2 := Lib.hid (dec_mk (m / 86400) 68)
  have A3 := Lib.hid (mk_listV (clkQ (m % 86400)))
  have s1 : (⟨(Lib.decDigits (m / 604800) ++ [87]).toArray⟩ : ByteArray).size ≤ 8 := by rw [mk_size, List.length_append]; simp; omega
  have s2 : (⟨(Lib.decDigits (m / 86400) ++ [68]).toArray⟩ : ByteArray).size ≤ 8 := by rw [mk_size, List.length_append]; simp; omega
  have s3 : (⟨(clkQ (m % 86400)).toArray⟩ : ByteArray).size ≤ 30 := by rw [mk_size]; exact hcl
  have b1 : m / 604800 ≤ 1000000000 := by omega
  have b2 : m / 86400 ≤ 1000000000 := by omega
  have b3 : m % 86400 < 86400 := by omega
  have b4 : m % 604800 < 604800 := by omega
  have hdz : m / 86400 = 0 → (m % 86400 = 0 ∧ 0 < m → False) := fun h1 h2 => by omega
  have HDZ := Lib.hid hdz
  generalize (⟨(Lib.decDigits (m / 604800) ++ [87]).toArray⟩ : ByteArray) = a1 at *
  generalize (⟨(Lib.decDigits (m / 86400) ++ [68]).toArray⟩ : ByteArray) = a2 at *
  generalize (⟨(clkQ (m % 86400)).toArray⟩ : ByteArray) = a3 at *
  generalize clkQ (m % 86400) = CK at *
  generalize m / 604800 = y1 at *
  generalize m / 86400 = y2 at *
  generalize m % 86400 = y3 at *
  generalize m % 604800 = y4 at *
  have z0 : (⟨#[]⟩ : ByteArray).size = 0 := rfl
  have z1 : (⟨#[80]⟩ : ByteArray).size = 1 := rfl
  have z2 : (⟨#[80, 84]⟩ : ByteArray).size = 2 := rfl
  have z3 : (⟨#[84]⟩ : ByteArray).size = 1 := rfl
  have no1 : ¬ 9223372036854775807 < ((⟨#[]⟩ : ByteArray) ++ (⟨#[80]⟩ : ByteArray)).size + a1.size := by simp only [ByteArray.size_append]; omega
  have no2 : ¬ 9223372036854775807 < ((⟨#[]⟩ : ByteArray) ++ (⟨#[80]⟩ : ByteArray)).size + a2.size := by simp only [ByteArray.size_append]; omega
  have no3 : ¬ 9223372036854775807 < ((⟨#[]⟩ : ByteArray) ++ (⟨#[80, 84]⟩ : ByteArray)).size + a3.size := by simp only [ByteArray.size_append]; omega
  have no4 : ¬ 9223372036854775807 < ((⟨#[]⟩ : ByteArray) ++ (⟨#[80]⟩ : ByteArray) ++ a2).size + 1 := by simp only [ByteArray.size_append]; omega
  have no6 : ¬ 9223372036854775807 ≤ ((⟨#[]⟩ : ByteArray) ++ (⟨#[80]⟩ : ByteArray) ++ a2).size := by simp only [ByteArray.size_append]; omega
  have no7 : ¬ 9223372036854775807 < ((⟨#[]⟩ : ByteArray) ++ (⟨#[80]⟩ : ByteArray) ++ a2).size + (⟨#[84]⟩ : ByteArray).size := by simp only [ByteArray.size_append]; omega
  have no8 : ¬ 9223372036854775806 < ((⟨#[]⟩ : ByteArray) ++ (⟨#[80]⟩ : ByteArray) ++ a2).size := by simp only [ByteArray.size_append]; omega
  have no5 : ¬ 9223372036854775807 < ((⟨#[]⟩ : ByteArray) ++ (⟨#[80]⟩ : ByteArray) ++ a2 ++ (⟨#[84]⟩ : ByteArray)).size + a3.size := by simp only [ByteArray.size_append]; omega
  clear z0 z1 z2 z3 s1 s2 s3 l1 l2 hcl hdz
  have HVV := Lib.hid hv
  clear hv
  have i0 : ¬ (m : Int) < 0 := by omega
  have i1 : ¬ 1000000000 < (m : Int) := by omega
  have i2 : ¬ (m : Int) < -1000000000 := by omega
  by_cases hk : 0 < m ∧ y4 = 0
  · obtain ⟨k1, rfl⟩ := hk
    have k2 : (0 : Int) < (m : Int) := by omega
    have HP := Lib.hid k1
    clear k1
    go_enter Tryz.func4, Tryz.ntmps4
    go_wp2_with (first
        | (go_at_call 15; ((with_reducible refine (c1 _ HVV.out).mono ?_); rintro e w1 ⟨rfl, hb1⟩))
        | (go_at_call 15; ((with_reducible refine (c2 _ HVV.out).mono ?_); rintro e w2 ⟨rfl, hb2⟩))
        | (go_at_call 16; ((with_reducible refine (c3 _ (HVV.out.step hb2)).mono ?_); rintro e w3 ⟨rfl, hb3, hl3⟩))
        | (go_at_call 16; ((with_reducible refine (c3 _ HVV.out).mono ?_); rintro e w3 ⟨rfl, hb3, hl3⟩)))
    go_ret
    refine ⟨?_, hb1⟩
    show Ending.returned (Value.string _) = Ending.returned (Value.string _)
    congr 2
    apply bytesV
    have g1 := HP.out
    first | (simp [HQ.out, A1.out, HP.out]; done) | (simp [HQ.out, A1.out, A2.out, A3.out]; done) | (simp [HQ.out, A1.out, A2.out, A3.out, *]; done)
  · have HK := Lib.hid hk
    by_cases hd : y2 = 0
    · subst hd
      have hz : ¬ (y3 = 0 ∧ 0 < m) := fun h => HDZ.out rfl h
      have HP := Lib.hid hz
      rcases Nat.eq_zero_or_pos m with k1 | k1
      · have k2 : ¬ (0 : Int) < (m : Int) := by omega
        have HM := Lib.hid k1
        clear k1 hk hz
        go_enter Tryz.func4, Tryz.ntmps4
        go_wp2_with (first
            | (go_at_call 15; ((with_reducible refine (c1 _ HVV.out).mono ?_); rintro e w1 ⟨rfl, hb1⟩))
            | (go_at_call 15; ((with_reducible refine (c2 _ HVV.out).mono ?_); rintro e w2 ⟨rfl, hb2⟩))
            | (go_at_call 16; ((with_reducible refine (c3 _ (HVV.out.step hb2)).mono ?_); rintro e w3 ⟨rfl, hb3, hl3⟩))
            | (go_at_call 16; ((with_reducible refine (c3 _ HVV.out).mono ?_); rintro e w3 ⟨rfl, hb3, hl3⟩)))
        go_ret
        refine ⟨?_, hb3⟩
        show Ending.returned (Value.string _) = Ending.returned (Value.string _)
        congr 2
        apply bytesV
        rw [HQ.out, if_neg HK.out, if_neg (show ¬ 0 < 0 by omega), if_neg HP.out]
        first | (simp [A3.out]; done) | (simp [HQ.out, A1.out, A2.out, A3.out]; done) | (simp [HQ.out, A1.out, A2.out, A3.out, *]; done)
      · have k2 : (0 : Int) < (m : Int) := by omega
        have k3 : ((y4 : Int) == 0) = false := by rw [beq_eq_false_iff_ne]; intro h; exact hk ⟨k1, by omega⟩
        clear k1 hk hz
        go_enter Tryz.func4, Tryz.ntmps4
        go_wp2_with (first
            | (go_at_call 15; ((with_reducible refine (c1 _ HVV.out).mono ?_); rintro e w1 ⟨rfl, hb1⟩))
            | (go_at_call 15; ((with_reducible refine (c2 _ HVV.out).mono ?_); rintro e w2 ⟨rfl, hb2⟩))
            | (go_at_call 16; ((with_reducible refine (c3 _ (HVV.out.step hb2)).mono ?_); rintro e w3 ⟨rfl, hb3, hl3⟩))
            | (go_at_call 16; ((with_reducible refine (c3 _ HVV.out).mono ?_); rintro e w3 ⟨rfl, hb3, hl3⟩)))
        go_ret
        refine ⟨?_, hb3⟩
        show Ending.returned (Value.string _) = Ending.returned (Value.string _)
        congr 2
        apply bytesV
        rw [HQ.out, if_neg HK.out, if_neg (show ¬ 0 < 0 by omega), if_neg HP.out]
        first | (simp [A3.out]; done) | (simp [HQ.out, A1.out, A2.out, A3.out]; done) | (simp [HQ.out, A1.out, A2.out, A3.out, *]; done)
    · have hd0 : 0 < y2 := by omega
      have hm0 : 0 < m := by
        rcases Nat.eq_zero_or_pos m with h | h
        · exfalso; subst h; have := m1; simp at this; omega
        · exact h
      have k2 : (0 : Int) < (m : Int) := by omega
      have k3 : ((y4 : Int) == 0) = false := by rw [beq_eq_false_iff_ne]; intro h; exact hk ⟨hm0, by omega⟩
      have k4 : ((y2 : Int) == 0) = false := by rw [beq_eq_false_iff_ne]; omega
      have HD := Lib.hid hd0
      have HM := Lib.hid hm0
      by_cases hy : y3 = 0
      · subst hy
        clear hk hd hd0 hm0
        go_enter Tryz.func4, Tryz.ntmps4
        go_wp2_with (first
            | (go_at_call 15; ((with_reducible refine (c1 _ HVV.out).mono ?_); rintro e w1 ⟨rfl, hb1⟩))
            | (go_at_call 15; ((with_reducible refine (c2 _ HVV.out).mono ?_); rintro e w2 ⟨rfl, hb2⟩))
            | (go_at_call 16; ((with_reducible refine (c3 _ (HVV.out.step hb2)).mono ?_); rintro e w3 ⟨rfl, hb3, hl3⟩))
            | (go_at_call 16; ((with_reducible refine (c3 _ HVV.out).mono ?_); rintro e w3 ⟨rfl, hb3, hl3⟩)))
        go_ret
        refine ⟨?_, hb2⟩
        show Ending.returned (Value.string _) = Ending.returned (Value.string _)
        congr 2
        apply bytesV
        rw [HQ.out, if_neg HK.out, if_pos HD.out, if_pos ⟨by trivial, HM.out⟩]
        have HP := HM
        first | (simp [A2.out]; done) | (simp [HQ.out, A1.out, A2.out, A3.out]; done) | (simp [HQ.out, A1.out, A2.out, A3.out, *]; done)
      · have k5 : ((y3 : Int) == 0) = false := by rw [beq_eq_false_iff_ne]; omega
        have HY := Lib.hid hy
        clear hk hd hd0 hm0 hy
        go_enter Tryz.func4, Tryz.ntmps4
        go_wp2_with (first
            | (go_at_call 15; ((with_reducible refine (c1 _ HVV.out).mono ?_); rintro e w1 ⟨rfl, hb1⟩))
            | (go_at_call 15; ((with_reducible refine (c2 _ HVV.out).mono ?_); rintro e w2 ⟨rfl, hb2⟩))
            | (go_at_call 16; ((with_reducible refine (c3 _ (HVV.out.step hb2)).mono ?_); rintro e w3 ⟨rfl, hb3, hl3⟩))
            | (go_at_call 16; ((with_reducible refine (c3 _ HVV.out).mono ?_); rintro e w3 ⟨rfl, hb3, hl3⟩)))
        go_ret
        refine ⟨?_, bstep hb2 hb3⟩
        show Ending.returned (Value.string _) = Ending.returned (Value.string _)
        congr 2
        apply bytesV
        rw [HQ.out, if_neg HK.out, if_pos HD.out, if_neg (fun h => HY.out h.1)]
        have HP := HM
        first | (simp [A2.out, A3.out]; done) | (simp [HQ.out, A1.out, A2.out, A3.out]; done) | (simp [HQ.out, A1.out, A2.out, A3.out, *]; done)
set_option maxRecDepth 100000 in
set_option maxHeartbeats 4000000 in
theorem durText_neg (m : Nat) (hm : m ≤ 1000000000) (h0 : 0 < m) (w : World) (hv : DV w) :
    Calls Tryz.prog 4 #[.int .i64 (-(m : Int))] w fun e w' => e = .returned (.string ⟨([45, 80] ++ bodyT m).toArray⟩) ∧ Below w.heap.size w w' := by
  have c1 := fun W (hV : DV W) => counted_any (m / 604800) (by omega) 87 W hV
  have c2 := fun W (hV : DV W) => counted_any (m / 86400) (by omega) 68 W hV
  have c3 := fun W (hV : DV W) => pClock_any (m % 86400) (by omega) W hV
  have l1 := dec_len 6 (m / 604800) (by omega)
  have l2 := dec_len 6 (m / 86400) (by omega)
  have m1 : Int.tdiv (m : Int) 86400 = ((m / 86400 : Nat) : Int) := by rw [tdiv_pos (by omega)]; omega
  have m2 : Int.tmod (m : Int) 86400 = ((m % 86400 : Nat) : Int) := by rw [tmod_pos (by omega)]; omega
  have m3 : Int.tdiv (m : Int) 604800 = ((m / 604800 : Nat) : Int) := by rw [tdiv_pos (by omega)]; omega
  have m4 : Int.tmod (m : Int) 604800 = ((m % 604800 : Nat) : Int) := by rw [tmod_pos (by omega)]; omega
  have HQ : Hid (bodyT m = if 0 < m ∧ m % 604800 = 0 then Lib.decDigits (m / 604800) ++ [87] else (if 0 < m / 86400 then Lib.decDigits (m / 86400) ++ [68] else []) ++ (if m % 86400 = 0 ∧ 0 < m then [] else 84 :: clkQ (m % 86400))) := Lib.hid rfl
  have hcl : (clkQ (m % 86400)).length ≤ 30 := by
    obtain ⟨e, w', _, h, _⟩ : ∃ (e : Unit) (w' : Unit), True ∧ (clkQ (m % 86400)).length ≤ 30 ∧ True := ⟨(), (), trivial, clkQ_len _ (by omega), trivial⟩
    exact h
  have A1 := Lib.hid (dec_mk (m / 604800) 87)
  have A2 := Lib.hid (dec_mk (m / 86400) 68)
  have A3 := Lib.hid (mk_listV (clkQ (m % 86400)))
  have s1 : (⟨(Lib.decDigits (m / 604800) ++ [87]).toArray⟩ : ByteArray).size ≤ 8 := by rw [mk_size, List.length_append]; simp; omega
  have s2 : (⟨(Lib.decDigits (m / 86400) ++ [68]).toArray⟩ : ByteArray).size ≤ 8 := by rw [mk_size, List.length_append]; simp; omega
  have s3 : (⟨(clkQ (m % 86400)).toArray⟩ : ByteArray).size ≤ 30 := by rw [mk_size]; exact hcl
  have b1 : m / 604800 ≤ 1000000000 := by omega
  have b2 : m / 86400 ≤ 1000000000 := by omega
  have b3 : m % 86400 < 86400 := by omega
  have b4 : m % 604800 < 604800 := by omega
  have hdz : m / 86400 = 0 → (m % 86400 = 0 ∧ 0 < m → False) := fun h1 h2 => by omega
  have HDZ := Lib.hid hdz
  generalize (⟨(Lib.decDigits (m / 604800) ++ [87]).toArray⟩ : ByteArray) = a1 at *
  generalize (⟨(Lib.decDigits (m / 86400) ++ [68]).toArray⟩ : ByteArray) = a2 at *
  generalize (⟨(clkQ (m % 86400)).toArray⟩ : ByteArray) = a3 at *
  generalize clkQ (m % 86400) = CK at *
  generalize m / 604800 = y1 at *
  generalize m / 86400 = y2 at *
  generalize m % 86400 = y3 at *
  generalize m % 604800 = y4 at *
  have z0 : (⟨#[45]⟩ : ByteArray).size = 1 := rfl
  have z1 : (⟨#[80]⟩ : ByteArray).size = 1 := rfl
  have z2 : (⟨#[80, 84]⟩ : ByteArray).size = 2 := rfl
  have z3 : (⟨#[84]⟩ : ByteArray).size = 1 := rfl
  have no1 : ¬ 9223372036854775807 < ((⟨#[45]⟩ : ByteArray) ++ (⟨#[80]⟩ : ByteArray)).size + a1.size := by simp only [ByteArray.size_append]; omega
  have no2 : ¬ 9223372036854775807 < ((⟨#[45]⟩ : ByteArray) ++ (⟨#[80]⟩ : ByteArray)).size + a2.size := by simp only [ByteArray.size_append]; omega
  have no3 : ¬ 9223372036854775807 < ((⟨#[45]⟩ : ByteArray) ++ (⟨#[80, 84]⟩ : ByteArray)).size + a3.size := by simp only [ByteArray.size_append]; omega
  have no4 : ¬ 9223372036854775807 < ((⟨#[45]⟩ : ByteArray) ++ (⟨#[80]⟩ : ByteArray) ++ a2).size + 1 := by simp only [ByteArray.size_append]; omega
  have no6 : ¬ 9223372036854775807 ≤ ((⟨#[45]⟩ : ByteArray) ++ (⟨#[80]⟩ : ByteArray) ++ a2).size := by simp only [ByteArray.size_append]; omega
  have no7 : ¬ 9223372036854775807 < ((⟨#[45]⟩ : ByteArray) ++ (⟨#[80]⟩ : ByteArray) ++ a2).size + (⟨#[84]⟩ : ByteArray).size := by simp only [ByteArray.size_append]; omega
  have no8 : ¬ 9223372036854775806 < ((⟨#[45]⟩ : ByteArray) ++ (⟨#[80]⟩ : ByteArray) ++ a2).size := by simp only [ByteArray.size_append]; omega
  have no5 : ¬ 9223372036854775807 < ((⟨#[45]⟩ : ByteArray) ++ (⟨#[80]⟩ : ByteArray) ++ a2 ++ (⟨#[84]⟩ : ByteArray)).size + a3.size := by simp only [ByteArray.size_append]; omega
  clear z0 z1 z2 z3 s1 s2 s3 l1 l2 hcl hdz
  have HVV := Lib.hid hv
  clear hv
  have i0 : -(m : Int) < 0 := by omega
  have i1 : ¬ 1000000000 < -(m : Int) := by omega
  have i2 : ¬ -(m : Int) < -1000000000 := by omega
  have i3 : - -(m : Int) = (m : Int) := by omega
  by_cases hk : 0 < m ∧ y4 = 0
  · obtain ⟨k1, rfl⟩ := hk
    have k2 : (0 : Int) < (m : Int) := by omega
    have HP := Lib.hid k1
    clear k1
    go_enter Tryz.func4, Tryz.ntmps4
    go_wp2_with (first
        | (go_at_call 15; ((with_reducible refine (c1 _ HVV.out).mono ?_); rintro e w1 ⟨rfl, hb1⟩))
        | (go_at_call 15; ((with_reducible refine (c2 _ HVV.out).mono ?_); rintro e w2 ⟨rfl, hb2⟩))
        | (go_at_call 16; ((with_reducible refine (c3 _ (HVV.out.step hb2)).mono ?_); rintro e w3 ⟨rfl, hb3, hl3⟩))
        | (go_at_call 16; ((with_reducible refine (c3 _ HVV.out).mono ?_); rintro e w3 ⟨rfl, hb3, hl3⟩)))
    go_ret
    refine ⟨?_, hb1⟩
    show Ending.returned (Value.string _) = Ending.returned (Value.string _)
    congr 2
    apply bytesV
    have g1 := HP.out
    first | (simp [HQ.out, A1.out, HP.out]; done) | (simp [HQ.out, A1.out, A2.out, A3.out]; done) | (simp [HQ.out, A1.out, A2.out, A3.out, *]; done)
  · have HK := Lib.hid hk
    by_cases hd : y2 = 0
    · subst hd
      have hz : ¬ (y3 = 0 ∧ 0 < m) := fun h => HDZ.out rfl h
      have HP := Lib.hid hz
      rcases Nat.eq_zero_or_pos m with k1 | k1
      · omega
      · have k2 : (0 : Int) < (m : Int) := by omega
        have k3 : ((y4 : Int) == 0) = false := by rw [beq_eq_false_iff_ne]; intro h; exact hk ⟨k1, by omega⟩
        clear k1 hk hz
        go_enter Tryz.func4, Tryz.ntmps4
        go_wp2_with (first
            | (go_at_call 15; ((with_reducible refine (c1 _ HVV.out).mono ?_); rintro e w1 ⟨rfl, hb1⟩))
            | (go_at_call 15; ((with_reducible refine (c2 _ HVV.out).mono ?_); rintro e w2 ⟨rfl, hb2⟩))
            | (go_at_call 16; ((with_reducible refine (c3 _ (HVV.out.step hb2)).mono ?_); rintro e w3 ⟨rfl, hb3, hl3⟩))
            | (go_at_call 16; ((with_reducible refine (c3 _ HVV.out).mono ?_); rintro e w3 ⟨rfl, hb3, hl3⟩)))
        go_ret
        refine ⟨?_, hb3⟩
        show Ending.returned (Value.string _) = Ending.returned (Value.string _)
        congr 2
        apply bytesV
        rw [HQ.out, if_neg HK.out, if_neg (show ¬ 0 < 0 by omega), if_neg HP.out]
        first | (simp [A3.out]; done) | (simp [HQ.out, A1.out, A2.out, A3.out]; done) | (simp [HQ.out, A1.out, A2.out, A3.out, *]; done)
    · have hd0 : 0 < y2 := by omega
      have hm0 : 0 < m := by
        rcases Nat.eq_zero_or_pos m with h | h
        · exfalso; subst h; have := m1; simp at this; omega
        · exact h
      have k2 : (0 : Int) < (m : Int) := by omega
      have k3 : ((y4 : Int) == 0) = false := by rw [beq_eq_false_iff_ne]; intro h; exact hk ⟨hm0, by omega⟩
      have k4 : ((y2 : Int) == 0) = false := by rw [beq_eq_false_iff_ne]; omega
      have HD := Lib.hid hd0
      have HM := Lib.hid hm0
      by_cases hy : y3 = 0
      · subst hy
        clear hk hd hd0 hm0
        go_enter Tryz.func4, Tryz.ntmps4
        go_wp2_with (first
            | (go_at_call 15; ((with_reducible refine (c1 _ HVV.out).mono ?_); rintro e w1 ⟨rfl, hb1⟩))
            | (go_at_call 15; ((with_reducible refine (c2 _ HVV.out).mono ?_); rintro e w2 ⟨rfl, hb2⟩))
            | (go_at_call 16; ((with_reducible refine (c3 _ (HVV.out.step hb2)).mono ?_); rintro e w3 ⟨rfl, hb3, hl3⟩))
            | (go_at_call 16; ((with_reducible refine (c3 _ HVV.out).mono ?_); rintro e w3 ⟨rfl, hb3, hl3⟩)))
        go_ret
        refine ⟨?_, hb2⟩
        show Ending.returned (Value.string _) = Ending.returned (Value.string _)
        congr 2
        apply bytesV
        rw [HQ.out, if_neg HK.out, if_pos HD.out, if_pos ⟨by trivial, HM.out⟩]
        have HP := HM
        first | (simp [A2.out]; done) | (simp [HQ.out, A1.out, A2.out, A3.out]; done) | (simp [HQ.out, A1.out, A2.out, A3.out, *]; done)
      · have k5 : ((y3 : Int) == 0) = false := by rw [beq_eq_false_iff_ne]; omega
        have HY := Lib.hid hy
        clear hk hd hd0 hm0 hy
        go_enter Tryz.func4, Tryz.ntmps4
        go_wp2_with (first
            | (go_at_call 15; ((with_reducible refine (c1 _ HVV.out).mono ?_); rintro e w1 ⟨rfl, hb1⟩))
            | (go_at_call 15; ((with_reducible refine (c2 _ HVV.out).mono ?_); rintro e w2 ⟨rfl, hb2⟩))
            | (go_at_call 16; ((with_reducible refine (c3 _ (HVV.out.step hb2)).mono ?_); rintro e w3 ⟨rfl, hb3, hl3⟩))
            | (go_at_call 16; ((with_reducible refine (c3 _ HVV.out).mono ?_); rintro e w3 ⟨rfl, hb3, hl3⟩)))
        go_ret
        refine ⟨?_, bstep hb2 hb3⟩
        show Ending.returned (Value.string _) = Ending.returned (Value.string _)
        congr 2
        apply bytesV
        rw [HQ.out, if_neg HK.out, if_pos HD.out, if_neg (fun h => HY.out h.1)]
        have HP := HM
        first | (simp [A2.out, A3.out]; done) | (simp [HQ.out, A1.out, A2.out, A3.out]; done) | (simp [HQ.out, A1.out, A2.out, A3.out, *]; done)
theorem pDurText_any (n : Int) (hn : -9223372036854775808 ≤ n ∧ n < 9223372036854775808) (w : World) (hv : DV w) :
    Calls Tryz.prog 4 #[.int .i64 n] w fun e w' => e = .returned (.string ⟨(durT n).toArray⟩) ∧ Below w.heap.size w w' := by
  by_cases hb : 1000000000 < n ∨ n < -1000000000
  · have E : Hid (durT n = []) := Lib.hid (by unfold durT; rw [if_pos hb])
    by_cases h1 : 1000000000 < n
    · clear hb
      go_enter Tryz.func4, Tryz.ntmps4
      go_wp2
      go_ret
      exact ⟨by rw [E.out]; rfl, Below.refl _ _⟩
    · have h2 : n < -1000000000 := by omega
      clear hb
      go_enter Tryz.func4, Tryz.ntmps4
      go_wp2
      go_ret
      exact ⟨by rw [E.out]; rfl, Below.refl _ _⟩
  · by_cases h0 : n < 0
    · obtain ⟨m, rfl⟩ : ∃ m : Nat, n = -(m : Int) := ⟨n.natAbs, by omega⟩
      have e : durT (-(m : Int)) = [45, 80] ++ bodyT m := by unfold durT; rw [if_neg hb, if_pos h0, show (-(m : Int)).natAbs = m by omega]
      rw [e]
      exact durText_neg m (by omega) (by omega) w hv
    · obtain ⟨m, rfl⟩ : ∃ m : Nat, n = (m : Int) := ⟨n.natAbs, by omega⟩
      have e : durT (m : Int) = [80] ++ bodyT m := by unfold durT; rw [if_neg hb, if_neg h0, show (m : Int).natAbs = m by omega]
      rw [e]
      exact durText_pos m (by omega) w hv
end Go.Proofs.YtdilnofolnabdaaGreatDoor
