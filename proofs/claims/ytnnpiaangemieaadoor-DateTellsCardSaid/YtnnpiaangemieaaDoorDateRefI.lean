/-
  The document's own answers of layer 10: a time as HTTP writes it, read.
-/
import Derived.Test.YtnnpiaangemieaaDoorDateRefF
import Derived.Test.YtnnpiaangemieaaDoorDateRefH
import Derived.Test.YtnnpiaangemieaaDoorDateHttpM
namespace Go.Proofs.YtnnpiaangemieaaDoor
open Go.RowKit

theorem below_drewND {w W : World} (h : Below w.heap.size w W) (q : Nat) : Below w.heap.size w (W.drewN q) := ⟨h.1, h.2, h.3, h.4, h.5⟩
theorem str_eqD (a b : ByteArray) : (a.toList == b.toList) = decide (a.data.toList = b.data.toList) := by
  rw [ByteArray.toList_eq, ByteArray.toList_eq]
  by_cases h : a.data.toList = b.data.toList
  · rw [h]; simp
  · rw [decide_eq_false h]; simpa using h
theorem monUp_step {X : List UInt8} {k : Nat} (h : 1 ≤ k) : monUp X k = if X = monT k then k else monUp X (k - 1) := by
  obtain ⟨j, rfl⟩ : ∃ j, k = j + 1 := ⟨k - 1, by omega⟩
  rfl
theorem month_at {k : Nat} (h : 1 ≤ k ∧ k ≤ 12) : (ByteArray.extract ⟨#[74, 97, 110, 70, 101, 98, 77, 97, 114, 65, 112, 114, 77, 97, 121, 74, 117, 110, 74, 117, 108, 65, 117, 103, 83, 101, 112, 79, 99, 116, 78, 111, 118, 68, 101, 99]⟩ (3 * k - 3) (3 * k)).data.toList = monT k := by
  rw [show (⟨#[74, 97, 110, 70, 101, 98, 77, 97, 114, 65, 112, 114, 77, 97, 121, 74, 117, 110, 74, 117, 108, 65, 117, 103, 83, 101, 112, 79, 99, 116, 78, 111, 118, 68, 101, 99]⟩ : ByteArray) = monthB from rfl, month_cut h]

set_option maxRecDepth 100000 in
set_option maxHeartbeats 4000000 in
theorem refReadHttp_any (s : ByteArray) (w : World) :
    Calls Tryd.prog 25 #[.string s] w fun e w' => e = .returned (.tuple #[.int .i64 (rdHttp s.data.toList).1, .int .i64 (rdHttp s.data.toList).2]) ∧ Below w.heap.size w w' := by
  have hsz := bsize s
  by_cases h29 : s.size = 29
  · have n1 := fun W => refNumber_any (s.extract 5 7) (by rw [ByteArray.size_extract]; omega) 99 W
    have n2 := fun W => refNumber_any (s.extract 12 16) (by rw [ByteArray.size_extract]; omega) 9999 W
    have n3 := fun W => refNumber_any (s.extract 17 19) (by rw [ByteArray.size_extract]; omega) 99 W
    have n4 := fun W => refNumber_any (s.extract 20 22) (by rw [ByteArray.size_extract]; omega) 99 W
    have n5 := fun W => refNumber_any (s.extract 23 25) (by rw [ByteArray.size_extract]; omega) 99 W
    rw [cut_list] at n1 n2 n3 n4 n5
    have HX := Lib.hid (cut_list s 8 11)
    have hl : s.data.toList ≠ [] := by
      intro e
      have := congrArg List.length e
      simp only [List.length_nil] at this
      omega
    have hall := fun (h1 : (numV (cutL s.data.toList 5 7) 99).2 = true) h2 h3 h4 h5 => rdHttp_all h1 h2 h3 h4 h5 rfl hl
    have hbad : ¬ ((numV (cutL s.data.toList 5 7) 99).2 = true ∧ (numV (cutL s.data.toList 12 16) 9999).2 = true ∧ (numV (cutL s.data.toList 17 19) 99).2 = true ∧ (numV (cutL s.data.toList 20 22) 99).2 = true ∧ (numV (cutL s.data.toList 23 25) 99).2 = true ∧
        0 ≤ clkV (numV (cutL s.data.toList 17 19) 99).1 (numV (cutL s.data.toList 20 22) 99).1 (numV (cutL s.data.toList 23 25) 99).1 ∧
        (daysV (numV (cutL s.data.toList 12 16) 9999).1 (monUp (cutL s.data.toList 8 11) 12) (numV (cutL s.data.toList 5 7) 99).1).2 = true) → rdHttp s.data.toList = (0, 10) := fun h => rdHttp_no fun t ht => h (by
      obtain ⟨_, a, b, c, d, e, f, g, _⟩ := http_parts ht
      exact ⟨a, b, c, d, e, f, g⟩)
    have r1 := numV_range (cutL s.data.toList 5 7) 99 (by decide)
    have r2 := numV_range (cutL s.data.toList 12 16) 9999 (by decide)
    have r3 := numV_range (cutL s.data.toList 17 19) 99 (by decide)
    have r4 := numV_range (cutL s.data.toList 20 22) 99 (by decide)
    have r5 := numV_range (cutL s.data.toList 23 25) 99 (by decide)
    have rm := monUp_le (cutL s.data.toList 8 11) 12
    rw [show (s.data.toList.drop 5).take (7 - 5) = cutL s.data.toList 5 7 from rfl] at n1
    rw [show (s.data.toList.drop 12).take (16 - 12) = cutL s.data.toList 12 16 from rfl] at n2
    rw [show (s.data.toList.drop 17).take (19 - 17) = cutL s.data.toList 17 19 from rfl] at n3
    rw [show (s.data.toList.drop 20).take (22 - 20) = cutL s.data.toList 20 22 from rfl] at n4
    rw [show (s.data.toList.drop 23).take (25 - 23) = cutL s.data.toList 23 25 from rfl] at n5
    rw [show (s.data.toList.drop 8).take (11 - 8) = cutL s.data.toList 8 11 from rfl] at HX
    generalize numV (cutL s.data.toList 5 7) 99 = z1 at *
    generalize numV (cutL s.data.toList 12 16) 9999 = z2 at *
    generalize numV (cutL s.data.toList 17 19) 99 = z3 at *
    generalize numV (cutL s.data.toList 20 22) 99 = z4 at *
    generalize numV (cutL s.data.toList 23 25) 99 = z5 at *
    obtain ⟨d1, b1⟩ := z1
    obtain ⟨d2, b2⟩ := z2
    obtain ⟨d3, b3⟩ := z3
    obtain ⟨d4, b4⟩ := z4
    obtain ⟨d5, b5⟩ := z5
    dsimp only at n1 n2 n3 n4 n5 hall hbad r1 r2 r3 r4 r5
    generalize cutL s.data.toList 8 11 = X at *
    have cc := fun W => refClock_any d3 d4 d5 (by omega) W
    have cd := fun W => refDays_any d2 (monUp X 12) d1 W
    have kc : clkV d3 d4 d5 < 86400 ∧ -1 ≤ clkV d3 d4 d5 := by unfold clkV; split <;> omega
    generalize clkV d3 d4 d5 = c at *
    have kd : (daysV d2 (monUp X 12) d1).2 = true → -719162 ≤ (daysV d2 (monUp X 12) d1).1 ∧ (daysV d2 (monUp X 12) d1).1 ≤ 2932896 := by
      intro h
      by_cases hd : dateD d2 (monUp X 12) d1
      · have r := numD_range hd
        rw [daysV_ok hd]
        exact ⟨r.2.2.1, r.2.2.2⟩
      · rw [daysV_bad hd] at h; cases h
    generalize daysV d2 (monUp X 12) d1 = zd at *
    obtain ⟨dn, db⟩ := zd
    dsimp only at cd hall hbad kd
    have HALL := Lib.hid hall
    have HBAD := Lib.hid hbad
    have HK := Lib.hid kd
    clear hall hbad hl kd hsz
    go_enter Tryd.func25, Tryd.ntmps25
    go_wp2
    go_loopw [4, 5] (fun s4 s5 wr => ∃ k : Nat, s5 = .int .i64 k ∧ 1 ≤ k ∧ k ≤ 13 ∧ s4 = .int .i64 (monUp X (k - 1) : Nat) ∧ Hid (Below w.heap.size w wr)) (fun _ s5 _ => 13 - (intOf s5).toNat)
    case atStart => exact ⟨1, rfl, by omega, by omega, rfl, Lib.hid (Below.refl _ _)⟩
    case round =>
      obtain ⟨k, rfl, hk1, hk2, rfl, HB⟩ := hrel
      by_cases hlt : k ≤ 12
      · have hst := monUp_step (X := X) hk1
        by_cases hx : X = monT k
        · have tb : ((s.extract 8 11).toList == (ByteArray.extract ⟨#[74, 97, 110, 70, 101, 98, 77, 97, 114, 65, 112, 114, 77, 97, 121, 74, 117, 110, 74, 117, 108, 65, 117, 103, 83, 101, 112, 79, 99, 116, 78, 111, 118, 68, 101, 99]⟩ (3 * k - 3) (3 * k)).toList) = true := by
            rw [str_eqD, HX.out, month_at ⟨hk1, hlt⟩]; exact decide_eq_true hx
          rw [if_pos hx] at hst
          have HST := Lib.hid hst
          clear hst hx
          go_wp2
          go_quiet (fail)
          go_wp2
          go_round
          case rel => exact ⟨k + 1, by go_num, by omega, by omega, by rw [Nat.add_sub_cancel, HST.out], Lib.hid (below_drewND HB.out _)⟩
          case measure => simp [intOf]; omega
        · have tb : ((s.extract 8 11).toList == (ByteArray.extract ⟨#[74, 97, 110, 70, 101, 98, 77, 97, 114, 65, 112, 114, 77, 97, 121, 74, 117, 110, 74, 117, 108, 65, 117, 103, 83, 101, 112, 79, 99, 116, 78, 111, 118, 68, 101, 99]⟩ (3 * k - 3) (3 * k)).toList) = false := by
            rw [str_eqD, HX.out, month_at ⟨hk1, hlt⟩]; exact decide_eq_false hx
          rw [if_neg hx] at hst
          have HST := Lib.hid hst
          clear hst hx
          go_wp2
          go_quiet (fail)
          go_wp2
          go_round
          case rel => exact ⟨k + 1, by go_num, by omega, by omega, by rw [Nat.add_sub_cancel, HST.out], Lib.hid (below_drewND HB.out _)⟩
          case measure => simp [intOf]; omega
      · obtain rfl : k = 13 := by omega
        rw [show (13 - 1 : Nat) = 12 from rfl]
        clear HX
        cases b1
        · have E : Hid (rdHttp s.data.toList = (0, 10)) := Lib.hid (HBAD.out (by rintro ⟨h1, h2, h3, h4, h5, h6, h7⟩; contradiction))
          clear HBAD HALL HK
          go_wp2_with (first
            | (go_at_call 38; ((with_reducible refine (n1 _).mono ?_); rintro e w' ⟨rfl, hw⟩; subst w'))
            | (go_at_call 38; ((with_reducible refine (n2 _).mono ?_); rintro e w' ⟨rfl, hw⟩; subst w'))
            | (go_at_call 38; ((with_reducible refine (n3 _).mono ?_); rintro e w' ⟨rfl, hw⟩; subst w'))
            | (go_at_call 38; ((with_reducible refine (n4 _).mono ?_); rintro e w' ⟨rfl, hw⟩; subst w'))
            | (go_at_call 38; ((with_reducible refine (n5 _).mono ?_); rintro e w' ⟨rfl, hw⟩; subst w'))
            | (go_at_call 39; ((with_reducible refine (cc _).mono ?_); rintro e w' ⟨rfl, hw⟩; subst w'))
            | (go_at_call 8; ((with_reducible refine (cd _).mono ?_); rintro e w' ⟨rfl, hw⟩; subst w'))
            | (go_at_call 31; ((with_reducible refine (ch _).mono ?_); rintro e w9 ⟨rfl, hb9⟩)))
          go_ret2
          exact ⟨by rw [E.out]; rfl, HB.out⟩
        cases b2
        · have E : Hid (rdHttp s.data.toList = (0, 10)) := Lib.hid (HBAD.out (by rintro ⟨h1, h2, h3, h4, h5, h6, h7⟩; contradiction))
          clear HBAD HALL HK
          go_wp2_with (first
            | (go_at_call 38; ((with_reducible refine (n1 _).mono ?_); rintro e w' ⟨rfl, hw⟩; subst w'))
            | (go_at_call 38; ((with_reducible refine (n2 _).mono ?_); rintro e w' ⟨rfl, hw⟩; subst w'))
            | (go_at_call 38; ((with_reducible refine (n3 _).mono ?_); rintro e w' ⟨rfl, hw⟩; subst w'))
            | (go_at_call 38; ((with_reducible refine (n4 _).mono ?_); rintro e w' ⟨rfl, hw⟩; subst w'))
            | (go_at_call 38; ((with_reducible refine (n5 _).mono ?_); rintro e w' ⟨rfl, hw⟩; subst w'))
            | (go_at_call 39; ((with_reducible refine (cc _).mono ?_); rintro e w' ⟨rfl, hw⟩; subst w'))
            | (go_at_call 8; ((with_reducible refine (cd _).mono ?_); rintro e w' ⟨rfl, hw⟩; subst w'))
            | (go_at_call 31; ((with_reducible refine (ch _).mono ?_); rintro e w9 ⟨rfl, hb9⟩)))
          go_ret2
          exact ⟨by rw [E.out]; rfl, HB.out⟩
        cases b3
        · have E : Hid (rdHttp s.data.toList = (0, 10)) := Lib.hid (HBAD.out (by rintro ⟨h1, h2, h3, h4, h5, h6, h7⟩; contradiction))
          clear HBAD HALL HK
          go_wp2_with (first
            | (go_at_call 38; ((with_reducible refine (n1 _).mono ?_); rintro e w' ⟨rfl, hw⟩; subst w'))
            | (go_at_call 38; ((with_reducible refine (n2 _).mono ?_); rintro e w' ⟨rfl, hw⟩; subst w'))
            | (go_at_call 38; ((with_reducible refine (n3 _).mono ?_); rintro e w' ⟨rfl, hw⟩; subst w'))
            | (go_at_call 38; ((with_reducible refine (n4 _).mono ?_); rintro e w' ⟨rfl, hw⟩; subst w'))
            | (go_at_call 38; ((with_reducible refine (n5 _).mono ?_); rintro e w' ⟨rfl, hw⟩; subst w'))
            | (go_at_call 39; ((with_reducible refine (cc _).mono ?_); rintro e w' ⟨rfl, hw⟩; subst w'))
            | (go_at_call 8; ((with_reducible refine (cd _).mono ?_); rintro e w' ⟨rfl, hw⟩; subst w'))
            | (go_at_call 31; ((with_reducible refine (ch _).mono ?_); rintro e w9 ⟨rfl, hb9⟩)))
          go_ret2
          exact ⟨by rw [E.out]; rfl, HB.out⟩
        cases b4
        · have E : Hid (rdHttp s.data.toList = (0, 10)) := Lib.hid (HBAD.out (by rintro ⟨h1, h2, h3, h4, h5, h6, h7⟩; contradiction))
          clear HBAD HALL HK
          go_wp2_with (first
            | (go_at_call 38; ((with_reducible refine (n1 _).mono ?_); rintro e w' ⟨rfl, hw⟩; subst w'))
            | (go_at_call 38; ((with_reducible refine (n2 _).mono ?_); rintro e w' ⟨rfl, hw⟩; subst w'))
            | (go_at_call 38; ((with_reducible refine (n3 _).mono ?_); rintro e w' ⟨rfl, hw⟩; subst w'))
            | (go_at_call 38; ((with_reducible refine (n4 _).mono ?_); rintro e w' ⟨rfl, hw⟩; subst w'))
            | (go_at_call 38; ((with_reducible refine (n5 _).mono ?_); rintro e w' ⟨rfl, hw⟩; subst w'))
            | (go_at_call 39; ((with_reducible refine (cc _).mono ?_); rintro e w' ⟨rfl, hw⟩; subst w'))
            | (go_at_call 8; ((with_reducible refine (cd _).mono ?_); rintro e w' ⟨rfl, hw⟩; subst w'))
            | (go_at_call 31; ((with_reducible refine (ch _).mono ?_); rintro e w9 ⟨rfl, hb9⟩)))
          go_ret2
          exact ⟨by rw [E.out]; rfl, HB.out⟩
        cases b5
        · have E : Hid (rdHttp s.data.toList = (0, 10)) := Lib.hid (HBAD.out (by rintro ⟨h1, h2, h3, h4, h5, h6, h7⟩; contradiction))
          clear HBAD HALL HK
          go_wp2_with (first
            | (go_at_call 38; ((with_reducible refine (n1 _).mono ?_); rintro e w' ⟨rfl, hw⟩; subst w'))
            | (go_at_call 38; ((with_reducible refine (n2 _).mono ?_); rintro e w' ⟨rfl, hw⟩; subst w'))
            | (go_at_call 38; ((with_reducible refine (n3 _).mono ?_); rintro e w' ⟨rfl, hw⟩; subst w'))
            | (go_at_call 38; ((with_reducible refine (n4 _).mono ?_); rintro e w' ⟨rfl, hw⟩; subst w'))
            | (go_at_call 38; ((with_reducible refine (n5 _).mono ?_); rintro e w' ⟨rfl, hw⟩; subst w'))
            | (go_at_call 39; ((with_reducible refine (cc _).mono ?_); rintro e w' ⟨rfl, hw⟩; subst w'))
            | (go_at_call 8; ((with_reducible refine (cd _).mono ?_); rintro e w' ⟨rfl, hw⟩; subst w'))
            | (go_at_call 31; ((with_reducible refine (ch _).mono ?_); rintro e w9 ⟨rfl, hb9⟩)))
          go_ret2
          exact ⟨by rw [E.out]; rfl, HB.out⟩
        by_cases hc : c < 0
        · have E : Hid (rdHttp s.data.toList = (0, 10)) := Lib.hid (HBAD.out (by rintro ⟨h1, h2, h3, h4, h5, h6, h7⟩; omega))
          clear HBAD HALL HK
          go_wp2_with (first
            | (go_at_call 38; ((with_reducible refine (n1 _).mono ?_); rintro e w' ⟨rfl, hw⟩; subst w'))
            | (go_at_call 38; ((with_reducible refine (n2 _).mono ?_); rintro e w' ⟨rfl, hw⟩; subst w'))
            | (go_at_call 38; ((with_reducible refine (n3 _).mono ?_); rintro e w' ⟨rfl, hw⟩; subst w'))
            | (go_at_call 38; ((with_reducible refine (n4 _).mono ?_); rintro e w' ⟨rfl, hw⟩; subst w'))
            | (go_at_call 38; ((with_reducible refine (n5 _).mono ?_); rintro e w' ⟨rfl, hw⟩; subst w'))
            | (go_at_call 39; ((with_reducible refine (cc _).mono ?_); rintro e w' ⟨rfl, hw⟩; subst w'))
            | (go_at_call 8; ((with_reducible refine (cd _).mono ?_); rintro e w' ⟨rfl, hw⟩; subst w'))
            | (go_at_call 31; ((with_reducible refine (ch _).mono ?_); rintro e w9 ⟨rfl, hb9⟩)))
          go_ret2
          exact ⟨by rw [E.out]; rfl, HB.out⟩
        cases db
        · have E : Hid (rdHttp s.data.toList = (0, 10)) := Lib.hid (HBAD.out (by rintro ⟨h1, h2, h3, h4, h5, h6, h7⟩; contradiction))
          clear HBAD HALL HK
          go_wp2_with (first
            | (go_at_call 38; ((with_reducible refine (n1 _).mono ?_); rintro e w' ⟨rfl, hw⟩; subst w'))
            | (go_at_call 38; ((with_reducible refine (n2 _).mono ?_); rintro e w' ⟨rfl, hw⟩; subst w'))
            | (go_at_call 38; ((with_reducible refine (n3 _).mono ?_); rintro e w' ⟨rfl, hw⟩; subst w'))
            | (go_at_call 38; ((with_reducible refine (n4 _).mono ?_); rintro e w' ⟨rfl, hw⟩; subst w'))
            | (go_at_call 38; ((with_reducible refine (n5 _).mono ?_); rintro e w' ⟨rfl, hw⟩; subst w'))
            | (go_at_call 39; ((with_reducible refine (cc _).mono ?_); rintro e w' ⟨rfl, hw⟩; subst w'))
            | (go_at_call 8; ((with_reducible refine (cd _).mono ?_); rintro e w' ⟨rfl, hw⟩; subst w'))
            | (go_at_call 31; ((with_reducible refine (ch _).mono ?_); rintro e w9 ⟨rfl, hb9⟩)))
          go_ret2
          exact ⟨by rw [E.out]; rfl, HB.out⟩
        obtain ⟨k1, k2⟩ := HK.out rfl
        have hv := HALL.out rfl rfl rfl rfl rfl
        have ch := fun W => refHttp_any (dn * 86400 + c) (by omega) W
        have hs := str_eqD ⟨(httpT (dn * 86400 + c)).toArray⟩ s
        rw [show (⟨(httpT (dn * 86400 + c)).toArray⟩ : ByteArray).data.toList = httpT (dn * 86400 + c) by simp] at hs
        generalize (⟨(httpT (dn * 86400 + c)).toArray⟩ : ByteArray) = hb at *
        clear HBAD HALL HK
        by_cases he : httpT (dn * 86400 + c) = s.data.toList
        · rw [if_pos he] at hv
          rw [decide_eq_true he] at hs
          have E := Lib.hid hv
          clear hv he
          go_wp2_with (first
            | (go_at_call 38; ((with_reducible refine (n1 _).mono ?_); rintro e w' ⟨rfl, hw⟩; subst w'))
            | (go_at_call 38; ((with_reducible refine (n2 _).mono ?_); rintro e w' ⟨rfl, hw⟩; subst w'))
            | (go_at_call 38; ((with_reducible refine (n3 _).mono ?_); rintro e w' ⟨rfl, hw⟩; subst w'))
            | (go_at_call 38; ((with_reducible refine (n4 _).mono ?_); rintro e w' ⟨rfl, hw⟩; subst w'))
            | (go_at_call 38; ((with_reducible refine (n5 _).mono ?_); rintro e w' ⟨rfl, hw⟩; subst w'))
            | (go_at_call 39; ((with_reducible refine (cc _).mono ?_); rintro e w' ⟨rfl, hw⟩; subst w'))
            | (go_at_call 8; ((with_reducible refine (cd _).mono ?_); rintro e w' ⟨rfl, hw⟩; subst w'))
            | (go_at_call 31; ((with_reducible refine (ch _).mono ?_); rintro e w9 ⟨rfl, hb9⟩)))
          go_ret2
          exact ⟨by rw [E.out]; rfl, bstep HB.out hb9⟩
        · rw [if_neg he] at hv
          rw [decide_eq_false he] at hs
          have E := Lib.hid hv
          clear hv he
          go_wp2_with (first
            | (go_at_call 38; ((with_reducible refine (n1 _).mono ?_); rintro e w' ⟨rfl, hw⟩; subst w'))
            | (go_at_call 38; ((with_reducible refine (n2 _).mono ?_); rintro e w' ⟨rfl, hw⟩; subst w'))
            | (go_at_call 38; ((with_reducible refine (n3 _).mono ?_); rintro e w' ⟨rfl, hw⟩; subst w'))
            | (go_at_call 38; ((with_reducible refine (n4 _).mono ?_); rintro e w' ⟨rfl, hw⟩; subst w'))
            | (go_at_call 38; ((with_reducible refine (n5 _).mono ?_); rintro e w' ⟨rfl, hw⟩; subst w'))
            | (go_at_call 39; ((with_reducible refine (cc _).mono ?_); rintro e w' ⟨rfl, hw⟩; subst w'))
            | (go_at_call 8; ((with_reducible refine (cd _).mono ?_); rintro e w' ⟨rfl, hw⟩; subst w'))
            | (go_at_call 31; ((with_reducible refine (ch _).mono ?_); rintro e w9 ⟨rfl, hb9⟩)))
          go_ret2
          exact ⟨by rw [E.out]; rfl, bstep HB.out hb9⟩
  · have E : Hid (rdHttp s.data.toList = (0, 10)) := Lib.hid (rdHttp_len (by omega))
    have hne : ¬ (s.size : Int) = 29 := by omega
    clear hsz
    go_enter Tryd.func25, Tryd.ntmps25
    go_wp2
    go_ret2
    exact ⟨by rw [E.out]; rfl, Below.refl _ _⟩

end Go.Proofs.YtnnpiaangemieaaDoor
