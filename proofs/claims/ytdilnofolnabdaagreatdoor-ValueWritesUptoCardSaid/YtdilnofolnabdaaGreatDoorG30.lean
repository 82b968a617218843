/-
  The document's own answers of layer 13: numbers and durations, written.
-/
import Derived.Test.YtdilnofolnabdaaGreatDoorG29
import Derived.Test.YtdilnofolnabdaaGreatDoorG21
import Derived.Deep.RegionWith
namespace Go.Proofs.YtdilnofolnabdaaGreatDoor
open Go.RowKit

theorem Byt.stepV {w w' : World} {g : Nat} {l : List UInt8} (h : Byt w g l) (hb : Below w.heap.size w w') : Byt w' g l := by
  have hlt := h.lt
  obtain ⟨C, e, a, b, hg, hr⟩ := h
  exact ⟨C, e, a, b, (hb.block g hlt).trans hg, hr⟩
set_option maxRecDepth 100000 in
set_option maxHeartbeats 4000000 in
theorem refNumT_any : ∀ (k n : Nat) (_ : k ≤ 16) (_ : n < 10 ^ (k + 1)) (w : World),
    Calls Tryz.prog 17 #[.int .i64 n] w fun e w' => e = .returned (.string ⟨(Lib.decDigits n).toArray⟩) ∧ Below w.heap.size w w'
  | k, n, hk, hn, w => by
    have hmx : Tryz.prog.follows .mixedOrders = true := by kernel_rfl
    have hpow : 10 ^ (k + 1) ≤ 10 ^ 17 := Nat.pow_le_pow_right (by omega) (by omega)
    have hnb : n < 100000000000000000 := Nat.lt_of_lt_of_le hn hpow
    by_cases h10 : n < 10
    · have HE := Lib.hid (dec_small h10)
      have g1 : (n : Int) < 10 := by omega
      have g2 : (n : Int) % 10 = (n : Int) := by omega
      have g3 : (48 + (n : Int)) % 256 = 48 + (n : Int) := by omega
      have hb0 := byte_dig h10
      generalize UInt8.ofNat (48 + n) = c at HE hb0
      have hcv := (Byt.of_litD (w := w) (e := 5) [c] #[.int .u8 (48 + (n : Int))] (by simp [hb0])).conv (P := Tryz.prog) Tryz.underlying45 Tryz.underlying5 Tryz.underlying9 1 1 rfl
      clear hn hpow hb0
      go_enter Tryz.func17, Tryz.ntmps17
      go_wp2
      go_ret
      exact ⟨by rw [HE.out]; rfl, (Below.refl _ _).alloc (Nat.le_refl _) _⟩
    · cases k with
      | zero => exfalso; simp at hn; omega
      | succ k =>
        have ih := fun W => refNumT_any k (n / 10) (by omega) (by rw [Nat.pow_succ] at hn; omega) W
        have HE := Lib.hid (dec_big h10)
        have g1 : ¬ (n : Int) < 10 := by omega
        have m1 : Int.tdiv (n : Int) 10 = ((n / 10 : Nat) : Int) := by rw [tdiv_pos (by omega)]; omega
        have m2 : Int.tmod (n : Int) 10 = ((n % 10 : Nat) : Int) := by rw [tmod_pos (by omega)]; omega
        have hl := dec_len k (n / 10) (by rw [Nat.pow_succ] at hn; omega)
        have hsz : (⟨(Lib.decDigits (n / 10)).toArray⟩ : ByteArray).size ≤ 20 := by rw [mk_size]; omega
        have hd : n % 10 < 10 := by omega
        generalize n % 10 = d at m2 hd HE
        have g3 : (48 + (d : Int)) % 256 = 48 + (d : Int) := by omega
        have hb0 := byte_dig hd
        generalize UInt8.ofNat (48 + d) = cd at HE hb0
        have HL := Lib.hid (show (#[Value.int .u8 (48 + (d : Int))] : Array Value).toList = [cd].map fun x => Value.int .u8 (x.toNat : Int) by simp [hb0])
        have hcv := fun W => (Byt.of_litD (w := W) (e := 5) [cd] #[.int .u8 (48 + (d : Int))] (by simp [hb0])).conv (P := Tryz.prog) Tryz.underlying45 Tryz.underlying5 Tryz.underlying9 1 1 rfl
        have HA := Lib.hid (mk_app (Lib.decDigits (n / 10)) [cd])
        have hs1 : (⟨[cd].toArray⟩ : ByteArray).size = 1 := by rw [mk_size]; rfl
        have hqb : n / 10 < 100000000000000000 := by omega
        generalize n / 10 = q at *
        generalize (⟨(Lib.decDigits q).toArray⟩ : ByteArray) = s at *
        have hno : ¬ 9223372036854775807 < s.size + 1 := by omega
        have hno2 : ¬ 9223372036854775807 < s.size + (⟨#[cd]⟩ : ByteArray).size := by show ¬ _ < s.size + 1; omega
        have wq : IntKind.i64.wrap (q : Int) = (q : Int) := by rw [IntKind.wrap_i64]; omega
        have wd : IntKind.i64.wrap (48 + (d : Int)) = 48 + (d : Int) := by rw [IntKind.wrap_i64]; omega
        have wu : IntKind.u8.wrap (48 + (d : Int)) = 48 + (d : Int) := by simp [IntKind.wrap, IntKind.bits, IntKind.signed]; omega
        clear hn hpow h10 hl hb0
        go_enter Tryz.func17, Tryz.ntmps17
        have hcv3 := ((Byt.of_litD (w := w) (e := 5) [cd] #[.int .u8 (48 + (d : Int))] HL.out).stepV (Below.refl _ _).drew).conv (P := Tryz.prog) Tryz.underlying45 Tryz.underlying5 Tryz.underlying9 1 1 rfl
        go_wp2
        go_region_with (go_at_call 17; ((with_reducible refine (ih _).mono ?_); rintro e w1 ⟨rfl, hb1⟩; try (have hcv2 := (show Byt w1 w.heap.size [cd] from (Byt.of_litD (e := 5) [cd] #[.int .u8 (48 + (d : Int))] HL.out).stepV (bstep (Below.refl _ _).drew hb1)).conv (P := Tryz.prog) Tryz.underlying45 Tryz.underlying5 Tryz.underlying9 1 1 rfl)))
        all_goals go_wp2
        all_goals go_ret
        all_goals refine ⟨by rw [HE.out, ← HA.out]; rfl, ?_⟩
        all_goals first
          | exact bstep ((Below.refl _ w).alloc (Nat.le_refl _) _).drew hb1
          | exact (bstep (Below.refl _ w).drew hb1).alloc (bstep (Below.refl _ w).drew hb1).size _
theorem refNumT (n : Nat) (h : n < 10000000000) (w : World) : Calls Tryz.prog 17 #[.int .i64 n] w fun e w' => e = .returned (.string ⟨(Lib.decDigits n).toArray⟩) ∧ Below w.heap.size w w' :=
  refNumT_any 16 n (Nat.le_refl _) (by omega) w
theorem num_sz {n : Nat} (h : n < 10000000000) : (⟨(Lib.decDigits n).toArray⟩ : ByteArray).size ≤ 20 := by
  rw [mk_size]; have := dec_len 9 n (by omega); omega
end Go.Proofs.YtdilnofolnabdaaGreatDoor

/-
  The document's own answers of layer 13: offsets and texts, written.
-/
namespace Go.Proofs.YtdilnofolnabdaaGreatDoor
open Go.RowKit

set_option maxRecDepth 100000 in
set_option maxHeartbeats 8000000 in
theorem refOffText_any (n : Int) (hn : -9223372036854775808 ≤ n ∧ n < 9223372036854775808) (w : World) :
    Calls Tryz.prog 7 #[.int .i64 n] w fun e w' => e = .returned (.string ⟨(offT n).toArray⟩) ∧ Below w.heap.size w w' := by
  by_cases hb : n ≤ -86400 ∨ 86400 ≤ n
  · have E : Hid (offT n = []) := Lib.hid (by unfold offT; rw [if_pos hb])
    by_cases h1 : n ≤ -86400
    · clear hb
      go_enter Tryz.func7, Tryz.ntmps7
      go_wp2
      go_ret
      exact ⟨by rw [E.out]; rfl, Below.refl _ _⟩
    · have h2 : 86400 ≤ n := by omega
      clear hb
      go_enter Tryz.func7, Tryz.ntmps7
      go_wp2
      go_ret
      exact ⟨by rw [E.out]; rfl, Below.refl _ _⟩
  · have HOT : Hid (offT n = (if n < 0 then 45 else 43) :: (padT 2 (n.natAbs / 3600) ++ (padT 2 (n.natAbs / 60 % 60) ++ (if 0 < n.natAbs % 60 then padT 2 (n.natAbs % 60) else [])))) := Lib.hid (by unfold offT; rw [if_neg hb])
    obtain ⟨m, hm⟩ : ∃ m : Nat, n.natAbs = m := ⟨_, rfl⟩
    rw [hm] at HOT
    have hmx : Tryz.prog.follows .mixedOrders = true := by kernel_rfl
    have hmb : m < 86400 := by omega
    have k1 := fun W => refPad_any (m / 3600) 2 (by omega) (by omega) W
    have k2 := fun W => refPad_any (m / 60 % 60) 2 (by omega) (by omega) W
    have k3 := fun W => refPad_any (m % 60) 2 (by omega) (by omega) W
    have m1 : Int.tdiv (m : Int) 3600 = ((m / 3600 : Nat) : Int) := by rw [tdiv_pos (by omega)]; omega
    have m2 : Int.tdiv (m : Int) 60 = ((m / 60 : Nat) : Int) := by rw [tdiv_pos (by omega)]; omega
    have m3 : Int.tmod ((m / 60 : Nat) : Int) 60 = ((m / 60 % 60 : Nat) : Int) := by rw [tmod_pos (by omega)]; omega
    have m4 : Int.tmod (m : Int) 60 = ((m % 60 : Nat) : Int) := by rw [tmod_pos (by omega)]; omega
    have A1 := Lib.hid (mk_listR (padT 2 (m / 3600)))
    have A2 := Lib.hid (mk_listR (padT 2 (m / 60 % 60)))
    have A3 := Lib.hid (mk_listR (padT 2 (m % 60)))
    have s1 : (⟨(padT 2 (m / 3600)).toArray⟩ : ByteArray).size = 2 := by rw [mk_size, padT_length]
    have s2 : (⟨(padT 2 (m / 60 % 60)).toArray⟩ : ByteArray).size = 2 := by rw [mk_size, padT_length]
    have s3 : (⟨(padT 2 (m % 60)).toArray⟩ : ByteArray).size = 2 := by rw [mk_size, padT_length]
    have b1 : m / 3600 ≤ 86400 := by omega
    have b2 : m / 60 ≤ 86400 := by omega
    have b3 : m / 60 % 60 ≤ 60 := by omega
    have b4 : m % 60 ≤ 60 := by omega
    generalize (⟨(padT 2 (m / 3600)).toArray⟩ : ByteArray) = a1 at *
    generalize (⟨(padT 2 (m / 60 % 60)).toArray⟩ : ByteArray) = a2 at *
    generalize (⟨(padT 2 (m % 60)).toArray⟩ : ByteArray) = a3 at *
    generalize m / 3600 = H at *
    generalize m / 60 % 60 = M at *
    generalize m / 60 = y at *
    generalize hx : m % 60 = X at *
    clear hx
    have j1 : ∀ W, Calls Tryz.prog 20 #[.int .i64 (H : Int), .int .i64 2] W fun e w' => e = .returned (.string a1) ∧ Below W.heap.size W w' := k1
    have j2 : ∀ W, Calls Tryz.prog 20 #[.int .i64 (M : Int), .int .i64 2] W fun e w' => e = .returned (.string a2) ∧ Below W.heap.size W w' := k2
    have j3 : ∀ W, Calls Tryz.prog 20 #[.int .i64 (X : Int), .int .i64 2] W fun e w' => e = .returned (.string a3) ∧ Below W.heap.size W w' := k3
    clear k1 k2 k3
    by_cases h0 : n < 0
    · obtain rfl : n = -(m : Int) := by omega
      rw [if_pos h0] at HOT
      have i1 : ¬ 86400 ≤ -(m : Int) := by omega
      have i2 : ¬ -(m : Int) ≤ -86400 := by omega
      have i3 : - -(m : Int) = (m : Int) := by omega
      by_cases hx : X = 0
      · subst hx
        have FX := Lib.hid (show ¬ 0 < 0 by omega)
        clear hb hm hmb
        have z0 : (⟨#[45]⟩ : ByteArray).size = 1 := rfl
        have no1 : ¬ 9223372036854775807 < (⟨#[45]⟩ : ByteArray).size + a1.size := by omega
        have no2 : ¬ 9223372036854775807 < ((⟨#[45]⟩ : ByteArray) ++ a1).size + a2.size := by simp only [ByteArray.size_append]; omega
        have no3 : ¬ 9223372036854775807 < ((⟨#[45]⟩ : ByteArray) ++ a1 ++ a2).size + a3.size := by simp only [ByteArray.size_append]; omega
        have no4 : ¬ 9223372036854775807 < 1 + a1.size := by omega
        clear z0 s1 s2 s3
        go_enter Tryz.func7, Tryz.ntmps7
        go_wp2_with (first
          | (go_at_call 20; ((with_reducible refine (j1 _).mono ?_); rintro e w1 ⟨rfl, hb1⟩; clear j1; have B1 := Lib.hid hb1))
          | (go_at_call 20; ((with_reducible refine (j2 _).mono ?_); rintro e w2 ⟨rfl, hb2⟩; clear j2; have B2 := Lib.hid (bstep B1.out hb2))))
        go_ret
        refine ⟨?_, B2.out⟩
        show Ending.returned (Value.string _) = Ending.returned (Value.string _)
        congr 2
        apply bytesR
        rw [mk_listR, HOT.out]
        have gx := FX.out
        simp [A1.out, A2.out, gx]
      · have FX := Lib.hid (show 0 < X by omega)
        have q1 : (0 : Int) < (X : Int) := by omega
        clear hb hm hmb hx
        have z0 : (⟨#[45]⟩ : ByteArray).size = 1 := rfl
        have no1 : ¬ 9223372036854775807 < (⟨#[45]⟩ : ByteArray).size + a1.size := by omega
        have no2 : ¬ 9223372036854775807 < ((⟨#[45]⟩ : ByteArray) ++ a1).size + a2.size := by simp only [ByteArray.size_append]; omega
        have no3 : ¬ 9223372036854775807 < ((⟨#[45]⟩ : ByteArray) ++ a1 ++ a2).size + a3.size := by simp only [ByteArray.size_append]; omega
        have no4 : ¬ 9223372036854775807 < 1 + a1.size := by omega
        clear z0 s1 s2 s3
        go_enter Tryz.func7, Tryz.ntmps7
        go_wp2_with (first
          | (go_at_call 20; ((with_reducible refine (j1 _).mono ?_); rintro e w1 ⟨rfl, hb1⟩; clear j1; have B1 := Lib.hid hb1))
          | (go_at_call 20; ((with_reducible refine (j2 _).mono ?_); rintro e w2 ⟨rfl, hb2⟩; clear j2; have B2 := Lib.hid (bstep B1.out hb2)))
          | (go_at_call 20; ((with_reducible refine (j3 _).mono ?_); rintro e w3 ⟨rfl, hb3⟩; clear j3; have B3 := Lib.hid (bstep B2.out hb3))))
        go_ret
        refine ⟨?_, B3.out⟩
        show Ending.returned (Value.string _) = Ending.returned (Value.string _)
        congr 2
        apply bytesR
        rw [mk_listR, HOT.out]
        have gx := FX.out
        simp [A1.out, A2.out, A3.out, gx]
    · obtain rfl : n = (m : Int) := by omega
      rw [if_neg h0] at HOT
      have i1 : ¬ 86400 ≤ (m : Int) := by omega
      have i2 : ¬ (m : Int) ≤ -86400 := by omega
      by_cases hx : X = 0
      · subst hx
        have FX := Lib.hid (show ¬ 0 < 0 by omega)
        clear hb hm hmb
        have z0 : (⟨#[43]⟩ : ByteArray).size = 1 := rfl
        have no1 : ¬ 9223372036854775807 < (⟨#[43]⟩ : ByteArray).size + a1.size := by omega
        have no2 : ¬ 9223372036854775807 < ((⟨#[43]⟩ : ByteArray) ++ a1).size + a2.size := by simp only [ByteArray.size_append]; omega
        have no3 : ¬ 9223372036854775807 < ((⟨#[43]⟩ : ByteArray) ++ a1 ++ a2).size + a3.size := by simp only [ByteArray.size_append]; omega
        have no4 : ¬ 9223372036854775807 < 1 + a1.size := by omega
        clear z0 s1 s2 s3
        go_enter Tryz.func7, Tryz.ntmps7
        go_wp2_with (first
          | (go_at_call 20; ((with_reducible refine (j1 _).mono ?_); rintro e w1 ⟨rfl, hb1⟩; clear j1; have B1 := Lib.hid hb1))
          | (go_at_call 20; ((with_reducible refine (j2 _).mono ?_); rintro e w2 ⟨rfl, hb2⟩; clear j2; have B2 := Lib.hid (bstep B1.out hb2))))
        go_ret
        refine ⟨?_, B2.out⟩
        show Ending.returned (Value.string _) = Ending.returned (Value.string _)
        congr 2
        apply bytesR
        rw [mk_listR, HOT.out]
        have gx := FX.out
        simp [A1.out, A2.out, gx]
      · have FX := Lib.hid (show 0 < X by omega)
        have q1 : (0 : Int) < (X : Int) := by omega
        clear hb hm hmb hx h0 hn
        have i0 : ¬ (m : Int) < 0 := by omega
        generalize (m : Int) = z at *
        have z0 : (⟨#[43]⟩ : ByteArray).size = 1 := rfl
        have no1 : ¬ 9223372036854775807 < (⟨#[43]⟩ : ByteArray).size + a1.size := by omega
        have no2 : ¬ 9223372036854775807 < ((⟨#[43]⟩ : ByteArray) ++ a1).size + a2.size := by simp only [ByteArray.size_append]; omega
        have no3 : ¬ 9223372036854775807 < ((⟨#[43]⟩ : ByteArray) ++ a1 ++ a2).size + a3.size := by simp only [ByteArray.size_append]; omega
        have no4 : ¬ 9223372036854775807 < 1 + a1.size := by omega
        clear z0 s1 s2 s3
        go_enter Tryz.func7, Tryz.ntmps7
        go_wp2_with (first
          | (go_at_call 20; ((with_reducible refine (j1 _).mono ?_); rintro e w1 ⟨rfl, hb1⟩; clear j1; have B1 := Lib.hid hb1))
          | (go_at_call 20; ((with_reducible refine (j2 _).mono ?_); rintro e w2 ⟨rfl, hb2⟩; clear j2; have B2 := Lib.hid (bstep B1.out hb2)))
          | (go_at_call 20; ((with_reducible refine (j3 _).mono ?_); rintro e w3 ⟨rfl, hb3⟩; clear j3; have B3 := Lib.hid (bstep B2.out hb3))))
        go_ret
        refine ⟨?_, B3.out⟩
        show Ending.returned (Value.string _) = Ending.returned (Value.string _)
        congr 2
        apply bytesR
        rw [mk_listR, HOT.out]
        have gx := FX.out
        simp [A1.out, A2.out, A3.out, gx]
set_option maxRecDepth 100000 in
set_option maxHeartbeats 8000000 in
theorem refEsc_any (s : ByteArray) (hs : s.size ≤ 1048576) (w : World) :
    Calls Tryz.prog 13 #[.string s] w fun e w' => e = .returned (.string ⟨(escL s.data.toList).toArray⟩) ∧ Below w.heap.size w w' := by
  go_enter Tryz.func13, Tryz.ntmps13
  go_wp2
  go_loopw [3, 4] (fun v p wr => ∃ (k : Nat) (x : ByteArray), v = .string x ∧ p = .int .i64 k ∧ k ≤ s.size ∧ x.size ≤ 2 * k ∧ wr = w ∧
    Hid (x.data.toList = escL (s.data.toList.take k))) (fun _ p _ => s.size - (intOf p).toNat)
  case atStart => exact ⟨0, ⟨#[]⟩, rfl, rfl, Nat.zero_le _, Nat.zero_le _, rfl, Lib.hid (by simp [escL])⟩
  case round =>
    obtain ⟨k, x, rfl, rfl, hk, hx, rfl, HU⟩ := hrel
    by_cases hlt : k < s.size
    · have h1 : (k : Int) < (s.size : Int) := by omega
      have h2 : (k : Int) + 1 ≤ (s.size : Int) := by omega
      have HST := Lib.hid (esc_step s hlt)
      have no1 : ¬ 9223372036854775807 < x.size + (s.extract k (k + 1)).size := by rw [sizeOneR hlt]; omega
      have no2 : ¬ 9223372036854775807 < x.size + 1 := by omega
      have no3 : ¬ 9223372036854775807 < (x ++ (⟨#[92]⟩ : ByteArray)).size + (s.extract k (k + 1)).size := by rw [sizeOneR hlt, sizeAppR]; show ¬ _ < x.size + 1 + 1; omega
      have no4 : ¬ 9223372036854775807 < x.size + 2 := by omega
      have no5 : ¬ 9223372036854775806 < x.size := by omega
      have no6 : ¬ 9223372036854775807 < x.size + (⟨#[92]⟩ : ByteArray).size := by show ¬ _ < x.size + 1; omega
      have no7 : ¬ 9223372036854775807 < x.size + (⟨#[92, 110]⟩ : ByteArray).size := by show ¬ _ < x.size + 2; omega
      by_cases q92 : s[k].toNat = 92
      · have HV : Hid ((x ++ (⟨#[92]⟩ : ByteArray) ++ s.extract k (k + 1)).data.toList = escL (s.data.toList.take (k + 1))) := Lib.hid (by rw [appR, appR, HST.out, HU.out, oneR hlt, byte_of q92]; simp [escB])
        have q92i : (((s[k].toNat : Nat) : Int) = 92) := by omega
        clear HU HST 
        go_wp2
        go_round
        case rel => exact ⟨k + 1, x ++ (⟨#[92]⟩ : ByteArray) ++ s.extract k (k + 1), by first | rfl | go_num, by go_num, by omega, by rw [sizeAppR, sizeAppR, sizeOneR hlt]; show x.size + 1 + 1 ≤ _; omega, by trivial, HV⟩
        case measure => simp [intOf]; omega
      · have q92i : ¬ (((s[k].toNat : Nat) : Int) = 92) := by omega
        obtain ⟨q92a, q92b⟩ := intNe q92i
        by_cases q59 : s[k].toNat = 59
        · have HV : Hid ((x ++ (⟨#[92]⟩ : ByteArray) ++ s.extract k (k + 1)).data.toList = escL (s.data.toList.take (k + 1))) := Lib.hid (by rw [appR, appR, HST.out, HU.out, oneR hlt, byte_of q59]; simp [escB])
          have q59i : (((s[k].toNat : Nat) : Int) = 59) := by omega
          clear HU HST q92
          go_wp2
          go_round
          case rel => exact ⟨k + 1, x ++ (⟨#[92]⟩ : ByteArray) ++ s.extract k (k + 1), by first | rfl | go_num, by go_num, by omega, by rw [sizeAppR, sizeAppR, sizeOneR hlt]; show x.size + 1 + 1 ≤ _; omega, by trivial, HV⟩
          case measure => simp [intOf]; omega
        · have q59i : ¬ (((s[k].toNat : Nat) : Int) = 59) := by omega
          obtain ⟨q59a, q59b⟩ := intNe q59i
          by_cases q44 : s[k].toNat = 44
          · have HV : Hid ((x ++ (⟨#[92]⟩ : ByteArray) ++ s.extract k (k + 1)).data.toList = escL (s.data.toList.take (k + 1))) := Lib.hid (by rw [appR, appR, HST.out, HU.out, oneR hlt, byte_of q44]; simp [escB])
            have q44i : (((s[k].toNat : Nat) : Int) = 44) := by omega
            clear HU HST q92 q59
            go_wp2
            go_round
            case rel => exact ⟨k + 1, x ++ (⟨#[92]⟩ : ByteArray) ++ s.extract k (k + 1), by first | rfl | go_num, by go_num, by omega, by rw [sizeAppR, sizeAppR, sizeOneR hlt]; show x.size + 1 + 1 ≤ _; omega, by trivial, HV⟩
            case measure => simp [intOf]; omega
          · have q44i : ¬ (((s[k].toNat : Nat) : Int) = 44) := by omega
            obtain ⟨q44a, q44b⟩ := intNe q44i
            by_cases q10 : s[k].toNat = 10
            · have HV : Hid ((x ++ (⟨#[92, 110]⟩ : ByteArray)).data.toList = escL (s.data.toList.take (k + 1))) := Lib.hid (by rw [appR, HST.out, HU.out, byte_of q10]; simp [escB])
              have q10i : (((s[k].toNat : Nat) : Int) = 10) := by omega
              clear HU HST q92 q59 q44
              go_wp2
              go_round
              case rel => exact ⟨k + 1, x ++ (⟨#[92, 110]⟩ : ByteArray), by first | rfl | go_num, by go_num, by omega, by rw [sizeAppR]; show x.size + 2 ≤ _; omega, by trivial, HV⟩
              case measure => simp [intOf]; omega
            · have q10i : ¬ (((s[k].toNat : Nat) : Int) = 10) := by omega
              obtain ⟨q10a, q10b⟩ := intNe q10i
              have HV : Hid ((x ++ s.extract k (k + 1)).data.toList = escL (s.data.toList.take (k + 1))) := Lib.hid (by
                rw [appR, HST.out, HU.out, oneR hlt]
                have : escB s[k] = [s[k]] := by
                  unfold escB
                  rw [if_neg (by rintro (h | h | h) <;> rw [h] at q92 q59 q44 <;> first | exact q92 rfl | exact q59 rfl | exact q44 rfl), if_neg (by intro h; rw [h] at q10; exact q10 rfl)]
                rw [this])
              clear HU HST q92 q59 q44 q10
              go_wp2
              go_round
              case rel => exact ⟨k + 1, x ++ s.extract k (k + 1), by first | rfl | go_num, by go_num, by omega, by rw [sizeAppR, sizeOneR hlt]; omega, by trivial, HV⟩
              case measure => simp [intOf]; omega
    · obtain rfl : k = s.size := by omega
      have HF : Hid ((⟨(escL s.data.toList).toArray⟩ : ByteArray) = x) := Lib.hid (bytesR (by
        rw [mk_listR, HU.out, List.take_of_length_le (by rw [listR]; exact Nat.le_refl _)]))
      clear HU
      go_wp2
      go_ret
      exact ⟨by rw [HF.out]; rfl, Below.refl _ _⟩
end Go.Proofs.YtdilnofolnabdaaGreatDoor
