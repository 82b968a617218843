/-
  The program's own functions of layer 13: an offset, written and read.
-/
import Derived.Test.YtdilnofolnabdaaGreatDoorG21
namespace Go.Proofs.YtdilnofolnabdaaGreatDoor
open Go.RowKit

theorem trim_app (p b : List UInt8) : Lib.trimPrefix (p ++ b) p = b := by
  unfold Lib.trimPrefix Lib.hasPrefix
  rw [if_pos (List.isPrefixOf_iff_prefix.2 (List.prefix_append p b))]
  simp
theorem pad_body (m : Nat) : (padT 2 (m / 3600) ++ (padT 2 (m / 60 % 60) ++ padT 2 (m % 60))).length = 6 := by simp [padT_length]
set_option maxRecDepth 100000 in
set_option maxHeartbeats 4000000 in
theorem pOffText_any (n : Int) (hn : -9223372036854775808 ≤ n ∧ n < 9223372036854775808) (w : World) (hv : DV w) :
    Calls Tryz.prog 6 #[.int .i64 n] w fun e w' => e = .returned (.string ⟨(offT n).toArray⟩) ∧ Below w.heap.size w w' := by
  by_cases hb : n ≤ -86400 ∨ 86400 ≤ n
  · have E : Hid (offT n = []) := Lib.hid (by unfold offT; rw [if_pos hb])
    by_cases h1 : 86400 ≤ n
    · clear hb
      go_enter Tryz.func6, Tryz.ntmps6
      go_wp2
      go_ret
      exact ⟨by rw [E.out]; rfl, Below.refl _ _⟩
    · have h2 : n ≤ -86400 := by omega
      clear hb
      go_enter Tryz.func6, Tryz.ntmps6
      go_wp2
      go_ret
      exact ⟨by rw [E.out]; rfl, Below.refl _ _⟩
  · have HOT : Hid (offT n = (if n < 0 then 45 else 43) :: (padT 2 (n.natAbs / 3600) ++ (padT 2 (n.natAbs / 60 % 60) ++ (if 0 < n.natAbs % 60 then padT 2 (n.natAbs % 60) else [])))) := Lib.hid (by unfold offT; rw [if_neg hb])
    obtain ⟨m, hm⟩ : ∃ m : Nat, n.natAbs = m := ⟨_, rfl⟩
    rw [hm] at HOT
    have hmb : m < 86400 := by omega
    have cs := fun W (hV : DV W) => pStamp_any (m : Int) (by omega) W hV
    rw [stamp_zero hmb] at cs
    obtain ⟨B, hB⟩ : ∃ B, padT 2 (m / 3600) ++ (padT 2 (m / 60 % 60) ++ padT 2 (m % 60)) = B := ⟨_, rfl⟩
    have hBl : B.length = 6 := by rw [← hB]; exact pad_body m
    rw [hB] at cs
    have ct := fun W => Tryz.strings_TrimPrefix ⟨((firstL ++ [84]) ++ B).toArray⟩ ⟨#[49, 57, 55, 48, 48, 49, 48, 49, 84]⟩ W
    have e1 : Lib.trimPrefix (⟨((firstL ++ [84]) ++ B).toArray⟩ : ByteArray).data.toList (⟨#[49, 57, 55, 48, 48, 49, 48, 49, 84]⟩ : ByteArray).data.toList = B := by
      rw [mk_listV]
      exact trim_app (firstL ++ [84]) B
    simp only [e1] at ct
    have s1 : (⟨B.toArray⟩ : ByteArray).size = 6 := by rw [mk_size, hBl]
    have m1 : Int.tmod (m : Int) 60 = ((m % 60 : Nat) : Int) := by rw [tmod_pos (by omega)]; omega
    have x1 : ((⟨B.toArray⟩ : ByteArray).extract 0 4).data.toList = padT 2 (m / 3600) ++ padT 2 (m / 60 % 60) := by
      rw [pieceB, mk_listV, ← hB]
      rw [← List.append_assoc, List.drop_zero, List.take_append_of_le_length (by simp [padT_length]), List.take_of_length_le (by simp [padT_length])]
    have x2 : (⟨B.toArray⟩ : ByteArray).data.toList = padT 2 (m / 3600) ++ (padT 2 (m / 60 % 60) ++ padT 2 (m % 60)) := by rw [mk_listV, hB]
    have s2 : ((⟨B.toArray⟩ : ByteArray).extract 0 4).size = 4 := by rw [← listB, x1]; simp [padT_length]
    have X1 := Lib.hid x1
    have X2 := Lib.hid x2
    generalize (⟨((firstL ++ [84]) ++ B).toArray⟩ : ByteArray) = S at *
    generalize (⟨B.toArray⟩ : ByteArray) = b at *
    have no1 : ¬ 9223372036854775807 < 1 + b.size := by omega
    have no2 : ¬ 9223372036854775807 < 1 + (b.extract 0 4).size := by omega
    have sl : (4 : Int) ≤ (b.size : Int) := by omega
    have hm60 : m % 60 < 60 := by omega
    have HVV := Lib.hid hv
    clear e1 x1 x2 hB hBl s2 hv
    by_cases h0 : n < 0
    · obtain rfl : n = -(m : Int) := by omega
      have i1 : ¬ 86400 ≤ -(m : Int) := by omega
      have i2 : ¬ -(m : Int) ≤ -86400 := by omega
      have i3 : - -(m : Int) = (m : Int) := by omega
      rw [if_pos h0] at HOT
      by_cases hz : m % 60 = 0
      · rw [hz] at m1
        have HZ := Lib.hid hz
        clear hb hm hz hm60
        go_enter Tryz.func6, Tryz.ntmps6
        go_wp2_with (first
          | (go_at_call 19; refine (cs _ HVV.out).mono ?_; rintro e w1 ⟨rfl, hb1⟩)
          | (go_at_call 18; refine (ct _).mono ?_; rintro e w' ⟨rfl, hw⟩; subst w'))
        go_ret
        refine ⟨?_, hb1⟩
        show Ending.returned (Value.string _) = Ending.returned (Value.string _)
        congr 2
        apply bytesV
        rw [mk_listV, HOT.out, HZ.out, app_list, X1.out]
        simp
      · have hq : (((m % 60 : Nat) : Int) == 0) = false := by rw [beq_eq_false_iff_ne]; omega
        have HZ := Lib.hid (show 0 < m % 60 by omega)
        generalize hy : m % 60 = y at m1 hq hm60
        have HY := Lib.hid hy
        clear hb hm hz hy
        go_enter Tryz.func6, Tryz.ntmps6
        go_wp2_with (first
          | (go_at_call 19; refine (cs _ HVV.out).mono ?_; rintro e w1 ⟨rfl, hb1⟩)
          | (go_at_call 18; refine (ct _).mono ?_; rintro e w' ⟨rfl, hw⟩; subst w'))
        go_ret
        refine ⟨?_, hb1⟩
        show Ending.returned (Value.string _) = Ending.returned (Value.string _)
        congr 2
        apply bytesV
        rw [mk_listV, HOT.out, if_pos HZ.out]
        simp [X2.out]
    · obtain rfl : n = (m : Int) := by omega
      have i1 : ¬ 86400 ≤ (m : Int) := by omega
      have i2 : ¬ (m : Int) ≤ -86400 := by omega
      rw [if_neg h0] at HOT
      by_cases hz : m % 60 = 0
      · rw [hz] at m1
        have HZ := Lib.hid hz
        clear hb hm hz hm60
        go_enter Tryz.func6, Tryz.ntmps6
        go_wp2_with (first
          | (go_at_call 19; refine (cs _ HVV.out).mono ?_; rintro e w1 ⟨rfl, hb1⟩)
          | (go_at_call 18; refine (ct _).mono ?_; rintro e w' ⟨rfl, hw⟩; subst w'))
        go_ret
        refine ⟨?_, hb1⟩
        show Ending.returned (Value.string _) = Ending.returned (Value.string _)
        congr 2
        apply bytesV
        rw [mk_listV, HOT.out, HZ.out, app_list, X1.out]
        simp
      · have hq : (((m % 60 : Nat) : Int) == 0) = false := by rw [beq_eq_false_iff_ne]; omega
        have HZ := Lib.hid (show 0 < m % 60 by omega)
        generalize hy : m % 60 = y at m1 hq hm60
        have HY := Lib.hid hy
        clear hb hm hz hy
        go_enter Tryz.func6, Tryz.ntmps6
        go_wp2_with (first
          | (go_at_call 19; refine (cs _ HVV.out).mono ?_; rintro e w1 ⟨rfl, hb1⟩)
          | (go_at_call 18; refine (ct _).mono ?_; rintro e w' ⟨rfl, hw⟩; subst w'))
        go_ret
        refine ⟨?_, hb1⟩
        show Ending.returned (Value.string _) = Ending.returned (Value.string _)
        congr 2
        apply bytesV
        rw [mk_listV, HOT.out, if_pos HZ.out]
        simp [X2.out]
/-- Two digits more where there are four. -/
def sixL (r : List UInt8) : List UInt8 := if r.length = 4 then r ++ [48, 48] else r
theorem offV_cut (l : List UInt8) : offV l = if (cutS l).1 = 0 then (0, 10) else
    if ((sixL (cutS l).2).length = 6 ∧ (clkP ((sixL (cutS l).2).take 2) (cutL (sixL (cutS l).2) 2 4) ((sixL (cutS l).2).drop 4)).2 = true) ∧ ¬ ((cutS l).1 < 0 ∧ (clkP ((sixL (cutS l).2).take 2) (cutL (sixL (cutS l).2) 2 4) ((sixL (cutS l).2).drop 4)).1 = 0)
    then ((cutS l).1 * (clkP ((sixL (cutS l).2).take 2) (cutL (sixL (cutS l).2) 2 4) ((sixL (cutS l).2).drop 4)).1, 0) else (0, 10) := by
  have key : ∀ (sg : Int) (r : List UInt8), offB sg r = if ((sixL r).length = 6 ∧ (clkP ((sixL r).take 2) (cutL (sixL r) 2 4) ((sixL r).drop 4)).2 = true) ∧ ¬ (sg < 0 ∧ (clkP ((sixL r).take 2) (cutL (sixL r) 2 4) ((sixL r).drop 4)).1 = 0)
      then (sg * (clkP ((sixL r).take 2) (cutL (sixL r) 2 4) ((sixL r).drop 4)).1, 0) else (0, 10) := fun sg r => by
    unfold offB sixL
    by_cases h4 : r.length = 4
    · simp only [if_pos h4]
      unfold off6
      simp [h4]
    · simp only [if_neg h4]
      by_cases h6 : r.length = 6
      · rw [if_pos h6]
        unfold off6
        simp [h6]
      · rw [if_neg h6, if_neg (fun k => h6 k.1.1)]
  unfold offV cutS
  split
  · rw [key]; exact (if_neg (show ¬ ((1 : Int) = 0) by decide)).symm
  · rw [key]; exact (if_neg (show ¬ ((-1 : Int) = 0) by decide)).symm
  · rename_i h1 h2
    split
    · exact (h1 _ rfl).elim
    · exact (h2 _ rfl).elim
    · exact (if_pos rfl).symm
set_option maxRecDepth 100000 in
set_option maxHeartbeats 4000000 in
theorem pOff_any (s : ByteArray) (hs : s.size ≤ 1048576) (w : World) (hv : VV w) :
    Calls Tryz.prog 31 #[.string s] w fun e w' => e = .returned (.tuple #[.int .i64 (offV s.data.toList).1, .int .i64 (offV s.data.toList).2]) ∧ Below w.heap.size w w' := by
  have c1 := cutSign_any s hs w
  have HO := Lib.hid (offV_cut s.data.toList)
  have HSG := cutS_sg s.data.toList
  have hcl := cutS_len s.data.toList
  rw [listB] at hcl
  obtain ⟨⟨sg, r⟩, hcs⟩ : ∃ p, cutS s.data.toList = p := ⟨_, rfl⟩
  rw [hcs] at HO HSG c1 hcl
  simp only at HO HSG c1 hcl
  have hsx : (sixL r).length ≤ r.length + 2 := by unfold sixL; split <;> simp
  have c2 := fun W (hV : DV W) => pReadStamp_any ⟨((firstL ++ [84]) ++ sixL r).toArray⟩ (by rw [mk_size, List.length_append]; simp [firstL]; omega) W hV
  rw [mk_listV, stamp_first] at c2
  have e2 : (⟨#[49, 57, 55, 48, 48, 49, 48, 49, 84]⟩ : ByteArray) ++ ⟨(sixL r).toArray⟩ = ⟨((firstL ++ [84]) ++ sixL r).toArray⟩ := mk_app (firstL ++ [84]) (sixL r)
  have hr := clkP_range ((sixL r).take 2) (cutL (sixL r) 2 4) ((sixL r).drop 4)
  obtain ⟨q, hq⟩ : ∃ q, (clkP ((sixL r).take 2) (cutL (sixL r) 2 4) ((sixL r).drop 4)).1 = q := ⟨_, rfl⟩
  obtain ⟨P, hP⟩ : ∃ P : Prop, P = ((sixL r).length = 6 ∧ (clkP ((sixL r).take 2) (cutL (sixL r) 2 4) ((sixL r).drop 4)).2 = true) := ⟨_, rfl⟩
  have hPd : Decidable P := by rw [hP]; exact inferInstance
  have HVV := Lib.hid hv
  have hlen : r.length = 4 ∨ r.length ≠ 4 := by omega
  have s0 : (⟨r.toArray⟩ : ByteArray).size = r.length := mk_size r
  have s1 : (⟨(sixL r).toArray⟩ : ByteArray).size ≤ 1048578 := by rw [mk_size]; omega
  have no1 : ¬ 9223372036854775807 < 9 + (⟨(sixL r).toArray⟩ : ByteArray).size := by omega
  have no2 : ¬ 9223372036854775807 < (⟨r.toArray⟩ : ByteArray).size + 2 := by omega
  have e3 : r.length = 4 → (⟨r.toArray⟩ : ByteArray) ++ ⟨#[48, 48]⟩ = ⟨(sixL r).toArray⟩ := fun h => by unfold sixL; rw [if_pos h]; exact mk_app r [48, 48]
  have e4 : r.length ≠ 4 → (⟨r.toArray⟩ : ByteArray) = ⟨(sixL r).toArray⟩ := fun h => by unfold sixL; rw [if_neg h]
  rw [hq] at hr
  -- what the stamp tells
  have hc : (∃ n er, (∀ W, DV W → Calls Tryz.prog 41 #[.string ⟨((firstL ++ [84]) ++ sixL r).toArray⟩] W fun e w' => e = .returned (.tuple #[.int .i64 n, .int .i64 er]) ∧ Below W.heap.size W w') ∧
      ((er = 10 ∧ n = 0 ∧ offV s.data.toList = (0, 10)) ∨ (er = 0 ∧ 0 ≤ n ∧ n ≤ 86399 ∧ offV s.data.toList = if sg = 0 then (0, 10) else if ¬ (sg < 0 ∧ n = 0) then (sg * n, 0) else (0, 10)))) := by
    by_cases hp : (sixL r).length = 6 ∧ (clkP ((sixL r).take 2) (cutL (sixL r) 2 4) ((sixL r).drop 4)).2 = true
    · rw [if_pos hp, hq] at c2
      refine ⟨q, 0, c2, .inr ⟨rfl, hr.1, hr.2, ?_⟩⟩
      rw [HO.out, hq]
      by_cases h0 : sg = 0
      · rw [if_pos h0, if_pos h0]
      · rw [if_neg h0, if_neg h0]
        by_cases h1 : sg < 0 ∧ q = 0
        · rw [if_neg (fun k => k.2 h1), if_neg (fun k => k h1)]
        · rw [if_pos ⟨hp, h1⟩, if_pos h1]
    · rw [if_neg hp] at c2
      refine ⟨0, 10, c2, .inl ⟨rfl, rfl, ?_⟩⟩
      rw [HO.out]
      split
      · rfl
      · rw [if_neg (fun k => hp k.1)]
  obtain ⟨n, er, c3, HC⟩ := hc
  clear c2 HO hr hq hP hPd hcs hsx
  rw [← e2] at c3
  generalize (⟨(sixL r).toArray⟩ : ByteArray) = z at *
  generalize (⟨r.toArray⟩ : ByteArray) = rb at *
  have HE3 := Lib.hid e3
  have HE4 := Lib.hid e4
  have hrl := hlen
  clear e3 e4 e2 s1 hlen hcl
  have fin : ∀ (er' n' : Int), True := fun _ _ => trivial
  rcases hrl with h4 | h4
  · have hb4 : ((rb.size : Int) == 4) = true := by rw [beq_iff_eq]; omega
    have E3 := HE3.out h4
    clear h4 s0 HE3 HE4
    rcases HC with ⟨rfl, rfl, h⟩ | ⟨rfl, n0, n1, h⟩
    · have HF := Lib.hid h
      clear h HSG
      go_enter Tryz.func31, Tryz.ntmps31
      go_wp2_with (first
        | (go_at_call 48; refine c1.mono ?_; rintro e w1 ⟨rfl, hb1⟩)
        | (go_at_call 41; refine (c3 _ (HVV.out.dv.step hb1)).mono ?_; rintro e w2 ⟨rfl, hb2⟩))
      go_ret2
      exact ⟨by rw [HF.out]; rfl, bstep hb1 hb2⟩
    · have HF := Lib.hid h
      clear h
      rcases HSG with rfl | rfl | rfl
      · rw [if_pos rfl] at HF
        go_enter Tryz.func31, Tryz.ntmps31
        go_wp2_with (first
          | (go_at_call 48; refine c1.mono ?_; rintro e w1 ⟨rfl, hb1⟩)
          | (go_at_call 41; refine (c3 _ (HVV.out.dv.step hb1)).mono ?_; rintro e w2 ⟨rfl, hb2⟩))
        go_ret2
        exact ⟨by rw [HF.out]; rfl, bstep hb1 hb2⟩
      · rw [if_neg (by decide), if_pos (fun k => absurd k.1 (by decide)), Int.one_mul] at HF
        go_enter Tryz.func31, Tryz.ntmps31
        go_wp2_with (first
          | (go_at_call 48; refine c1.mono ?_; rintro e w1 ⟨rfl, hb1⟩)
          | (go_at_call 41; refine (c3 _ (HVV.out.dv.step hb1)).mono ?_; rintro e w2 ⟨rfl, hb2⟩))
        go_ret2
        exact ⟨by rw [HF.out]; rfl, bstep hb1 hb2⟩
      · by_cases hz : n = 0
        · subst hz
          rw [if_neg (by decide), if_neg (fun k => k ⟨by decide, rfl⟩)] at HF
          go_enter Tryz.func31, Tryz.ntmps31
          go_wp2_with (first
            | (go_at_call 48; refine c1.mono ?_; rintro e w1 ⟨rfl, hb1⟩)
            | (go_at_call 41; refine (c3 _ (HVV.out.dv.step hb1)).mono ?_; rintro e w2 ⟨rfl, hb2⟩))
          go_ret2
          exact ⟨by rw [HF.out]; rfl, bstep hb1 hb2⟩
        · rw [if_neg (by decide), if_pos (fun k => hz k.2)] at HF
          have hzb : (n == 0) = false := by rw [beq_eq_false_iff_ne]; exact hz
          clear hz
          go_enter Tryz.func31, Tryz.ntmps31
          go_wp2_with (first
            | (go_at_call 48; refine c1.mono ?_; rintro e w1 ⟨rfl, hb1⟩)
            | (go_at_call 41; refine (c3 _ (HVV.out.dv.step hb1)).mono ?_; rintro e w2 ⟨rfl, hb2⟩))
          go_ret2
          exact ⟨by rw [HF.out]; first | rfl | (simp; done), bstep hb1 hb2⟩
  · have hb4 : ((rb.size : Int) == 4) = false := by rw [beq_eq_false_iff_ne]; omega
    have E4 := HE4.out h4
    subst E4
    have no3 : ¬ 9223372036854775807 < 9 + rb.size := no1
    clear h4 s0 HE3 HE4 no1 no2
    rcases HC with ⟨rfl, rfl, h⟩ | ⟨rfl, n0, n1, h⟩
    · have HF := Lib.hid h
      clear h HSG
      go_enter Tryz.func31, Tryz.ntmps31
      go_wp2_with (first
        | (go_at_call 48; refine c1.mono ?_; rintro e w1 ⟨rfl, hb1⟩)
        | (go_at_call 41; refine (c3 _ (HVV.out.dv.step hb1)).mono ?_; rintro e w2 ⟨rfl, hb2⟩))
      go_ret2
      exact ⟨by rw [HF.out]; rfl, bstep hb1 hb2⟩
    · have HF := Lib.hid h
      clear h
      rcases HSG with rfl | rfl | rfl
      · rw [if_pos rfl] at HF
        go_enter Tryz.func31, Tryz.ntmps31
        go_wp2_with (first
          | (go_at_call 48; refine c1.mono ?_; rintro e w1 ⟨rfl, hb1⟩)
          | (go_at_call 41; refine (c3 _ (HVV.out.dv.step hb1)).mono ?_; rintro e w2 ⟨rfl, hb2⟩))
        go_ret2
        exact ⟨by rw [HF.out]; rfl, bstep hb1 hb2⟩
      · rw [if_neg (by decide), if_pos (fun k => absurd k.1 (by decide)), Int.one_mul] at HF
        go_enter Tryz.func31, Tryz.ntmps31
        go_wp2_with (first
          | (go_at_call 48; refine c1.mono ?_; rintro e w1 ⟨rfl, hb1⟩)
          | (go_at_call 41; refine (c3 _ (HVV.out.dv.step hb1)).mono ?_; rintro e w2 ⟨rfl, hb2⟩))
        go_ret2
        exact ⟨by rw [HF.out]; rfl, bstep hb1 hb2⟩
      · by_cases hz : n = 0
        · subst hz
          rw [if_neg (by decide), if_neg (fun k => k ⟨by decide, rfl⟩)] at HF
          go_enter Tryz.func31, Tryz.ntmps31
          go_wp2_with (first
            | (go_at_call 48; refine c1.mono ?_; rintro e w1 ⟨rfl, hb1⟩)
            | (go_at_call 41; refine (c3 _ (HVV.out.dv.step hb1)).mono ?_; rintro e w2 ⟨rfl, hb2⟩))
          go_ret2
          exact ⟨by rw [HF.out]; rfl, bstep hb1 hb2⟩
        · rw [if_neg (by decide), if_pos (fun k => hz k.2)] at HF
          have hzb : (n == 0) = false := by rw [beq_eq_false_iff_ne]; exact hz
          clear hz
          go_enter Tryz.func31, Tryz.ntmps31
          go_wp2_with (first
            | (go_at_call 48; refine c1.mono ?_; rintro e w1 ⟨rfl, hb1⟩)
            | (go_at_call 41; refine (c3 _ (HVV.out.dv.step hb1)).mono ?_; rintro e w2 ⟨rfl, hb2⟩))
          go_ret2
          exact ⟨by rw [HF.out]; first | rfl | (simp; done), bstep hb1 hb2⟩
end Go.Proofs.YtdilnofolnabdaaGreatDoor
