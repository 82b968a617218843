/-
  What is written is read as it was (layer 13): the law ValueBack.
-/
import Derived.Test.YtdilnofolnabdaaDoorValueAwake
import Derived.Test.YtdilnofolnabdaaDoorTextWithin
namespace Go.Proofs.YtdilnofolnabdaaDoor
open Go.RowKit

theorem offT_len (n : Int) : (offT n).length ≤ 7 := by
  unfold offT
  split
  · simp
  · simp [padT_length]
    split <;> simp [padT_length]
theorem index_no10 {l : List UInt8} (h : (10 : UInt8) ∉ l) : Lib.index l [10] = -1 := by
  refine Lib.index_none fun j _ => ?_
  unfold Lib.occAt
  cases hd : l.drop j with
  | nil => rfl
  | cons c r =>
    have hc : c ≠ 10 := by
      rintro rfl
      exact h (List.mem_of_mem_drop (by rw [hd]; simp))
    have : ((10 : UInt8) == c) = false := by rw [beq_eq_false_iff_ne]; exact fun e => hc e.symm
    simp [List.isPrefixOf, this]
theorem empty_of {l : List UInt8} : (⟨l.toArray⟩ : ByteArray).toList.isEmpty = l.isEmpty := by rw [ByteArray.toList_eq]
set_option maxRecDepth 100000 in
set_option maxHeartbeats 8000000 in
theorem back13_any (n : Int) (t p : Wh) (m : Int) (s : ByteArray) (hn : -9223372036854775808 ≤ n ∧ n < 9223372036854775808) (ht : -9223372036854775808 ≤ t.secs ∧ t.secs < 9223372036854775808) (hp : -9223372036854775808 ≤ p.secs ∧ p.secs < 9223372036854775808) (hm : -9223372036854775808 ≤ m ∧ m < 9223372036854775808) (hs : s.size ≤ 1048576) (w : World) (hv : VV w) :
    Calls Tryd.prog 4 #[.int .i64 n, whV t, perVal p m, .string s] w fun e w' => e = .returned (.bool true) ∧ Below w.heap.size w w' := by
  have a1 := fun W (hV : VV W) => pDurText_any n hn W hV.dv
  have a2 := fun W (hV : VV W) => pOffText_any n hn W hV.dv
  have a3 := fun W (hV : VV W) => pTimeText_any t ht W hV
  have a4 := fun W (hV : VV W) => pPerText_any p m hp hm W hV
  have a5 := fun W => pEsc_any s hs W
  have l5 := (escL_len s.data.toList).2
  rw [listB] at l5
  have b1 := fun W (hV : VV W) => pDur_any ⟨(durT n).toArray⟩ (by rw [mk_size]; have := durT_len n; omega) W hV
  have b2 := fun W (hV : VV W) => pOff_any ⟨(offT n).toArray⟩ (by rw [mk_size]; have := offT_len n; omega) W hV
  have b3 := fun W (hV : VV W) => pTime_any ⟨(timT t).toArray⟩ (by rw [mk_size]; have := timT_len t; omega) W hV
  have lp : (perT p m).length ≤ 1048576 := by
    unfold perT
    split
    · unfold perS; have := timT_len p; have := durT_len m; simp; omega
    · simp
  have b4 := fun W (hV : VV W) => pPer_any ⟨(perT p m).toArray⟩ (by rw [mk_size]; omega) W hV
  have b5 := fun W => pUnesc_any ⟨(escL s.data.toList).toArray⟩ (by rw [mk_size]; omega) W
  have b6 := fun W => refAt_any ⟨#[10]⟩ ⟨(escL s.data.toList).toArray⟩ (by decide) (by rw [mk_size]; omega) W
  rw [mk_listV] at b1 b2 b3 b4 b5 b6
  rw [show (⟨#[10]⟩ : ByteArray).data.toList = [10] from rfl, index_no10 (esc_no10 _)] at b6
  have e5 : unV (escL s.data.toList) = (s.data.toList, 0) := by unfold unV; rw [unesc_esc]
  rw [e5] at b5
  simp only [list_mk] at b5
  have r1 : durT n = [] ∨ ((durT n).isEmpty = false ∧ durV (durT n) = (n, 0)) := by
    by_cases h : 1000000000 < n ∨ n < -1000000000
    · left; unfold durT; rw [if_pos h]
    · obtain ⟨h1, h2⟩ := durV_back h
      exact .inr ⟨by cases hh : durT n <;> simp_all, h1⟩
  have r2 : offT n = [] ∨ ((offT n).isEmpty = false ∧ offV (offT n) = (n, 0)) := by
    by_cases h : n ≤ -86400 ∨ 86400 ≤ n
    · left; unfold offT; rw [if_pos h]
    · obtain ⟨h1, h2⟩ := offV_back h
      exact .inr ⟨by cases hh : offT n <;> simp_all, h1⟩
  have r3 : timT t = [] ∨ ((timT t).isEmpty = false ∧ timV (timT t) = (t, 0)) := by
    by_cases h : timT t = []
    · exact .inl h
    · exact .inr ⟨by cases hh : timT t <;> simp_all, timT_back t h⟩
  have r4 : perT p m = [] ∨ ((perT p m).isEmpty = false ∧ perV (perT p m) = ((p, m), 0)) := by
    by_cases h : perT p m = []
    · exact .inl h
    · exact .inr ⟨by cases hh : perT p m <;> simp_all, perT_back p m h⟩
  have k1 : durT n = [] ∨ ((⟨(durT n).toArray⟩ : ByteArray).toList.isEmpty = false ∧ ∀ W (hV : VV W), Calls Tryd.prog 5 #[.string ⟨(durT n).toArray⟩] W fun e w' => e = .returned (.tuple #[.int .i64 n, .int .i64 0]) ∧ Below W.heap.size W w') := r1.imp (fun h => h) (fun h => ⟨by rw [empty_of]; exact h.1, by rw [h.2] at b1; exact b1⟩)
  have k2 : offT n = [] ∨ ((⟨(offT n).toArray⟩ : ByteArray).toList.isEmpty = false ∧ ∀ W (hV : VV W), Calls Tryd.prog 7 #[.string ⟨(offT n).toArray⟩] W fun e w' => e = .returned (.tuple #[.int .i64 n, .int .i64 0]) ∧ Below W.heap.size W w') := r2.imp (fun h => h) (fun h => ⟨by rw [empty_of]; exact h.1, by rw [h.2] at b2; exact b2⟩)
  have k3 : timT t = [] ∨ ((⟨(timT t).toArray⟩ : ByteArray).toList.isEmpty = false ∧ ∀ W (hV : VV W), Calls Tryd.prog 11 #[.string ⟨(timT t).toArray⟩] W fun e w' => e = .returned (.tuple #[.agg #[.int .i64 t.secs, .bool t.utc, .bool t.date], .int .i64 0]) ∧ Below W.heap.size W w') := r3.imp (fun h => h) (fun h => ⟨by rw [empty_of]; exact h.1, by rw [h.2] at b3; exact b3⟩)
  have k4 : perT p m = [] ∨ ((⟨(perT p m).toArray⟩ : ByteArray).toList.isEmpty = false ∧ ∀ W (hV : VV W), Calls Tryd.prog 15 #[.string ⟨(perT p m).toArray⟩] W fun e w' => e = .returned (.tuple #[.agg #[.int .i64 p.secs, .bool p.utc, .bool p.date, .int .i64 m], .int .i64 0]) ∧ Below W.heap.size W w') := r4.imp (fun h => h) (fun h => ⟨by rw [empty_of]; exact h.1, by rw [h.2] at b4; exact b4⟩)
  have hss : ((⟨(escL s.data.toList).toArray⟩ : ByteArray)).size ≤ 16777216 := by rw [mk_size]; omega
  clear r1 r2 r3 r4 b1 b2 b3 b4 e5 l5 lp hn ht hp hm
  have HC := Lib.hid awake13_any
  have HVV := Lib.hid hv
  have ha : Below w.heap.size w ((w.alloc (.cells #[.int .i64 t.secs, .bool t.utc, .bool t.date] 32)).alloc (.cells #[.int .i64 p.secs, .bool p.utc, .bool p.date, .int .i64 m] 43)) := ((Below.refl _ w).alloc (Nat.le_refl _) _).alloc (by simp) _
  have hz1 := (H3.new w t).step ((Below.refl _ _).alloc (Nat.le_refl _) (.cells #[.int .i64 p.secs, .bool p.utc, .bool p.date, .int .i64 m] 43))
  have hz2 := P4.new (w.alloc (.cells #[.int .i64 t.secs, .bool t.utc, .bool t.date] 32)) p m
  rw [World.size_alloc] at hz2
  unfold whV at a3 ⊢
  unfold perVal at a4 ⊢
  generalize hT1 : (⟨(durT n).toArray⟩ : ByteArray) = T1 at *
  generalize hT2 : (⟨(offT n).toArray⟩ : ByteArray) = T2 at *
  generalize hT3 : (⟨(timT t).toArray⟩ : ByteArray) = T3 at *
  generalize hT4 : (⟨(perT p m).toArray⟩ : ByteArray) = T4 at *
  generalize (⟨(escL s.data.toList).toArray⟩ : ByteArray) = T5 at *
  have j1 : T1 = ⟨#[]⟩ ∨ (T1.toList.isEmpty = false ∧ ∀ W (hV : VV W), Calls Tryd.prog 5 #[.string T1] W fun e w' => e = .returned (.tuple #[.int .i64 n, .int .i64 0]) ∧ Below W.heap.size W w') := k1.imp (fun h => by rw [← hT1, h]) (fun h => h)
  have j2 : T2 = ⟨#[]⟩ ∨ (T2.toList.isEmpty = false ∧ ∀ W (hV : VV W), Calls Tryd.prog 7 #[.string T2] W fun e w' => e = .returned (.tuple #[.int .i64 n, .int .i64 0]) ∧ Below W.heap.size W w') := k2.imp (fun h => by rw [← hT2, h]) (fun h => h)
  have j3 : T3 = ⟨#[]⟩ ∨ (T3.toList.isEmpty = false ∧ ∀ W (hV : VV W), Calls Tryd.prog 11 #[.string T3] W fun e w' => e = .returned (.tuple #[.agg #[.int .i64 t.secs, .bool t.utc, .bool t.date], .int .i64 0]) ∧ Below W.heap.size W w') := k3.imp (fun h => by rw [← hT3, h]) (fun h => h)
  have j4 : T4 = ⟨#[]⟩ ∨ (T4.toList.isEmpty = false ∧ ∀ W (hV : VV W), Calls Tryd.prog 15 #[.string T4] W fun e w' => e = .returned (.tuple #[.agg #[.int .i64 p.secs, .bool p.utc, .bool p.date, .int .i64 m], .int .i64 0]) ∧ Below W.heap.size W w') := k4.imp (fun h => by rw [← hT4, h]) (fun h => h)
  clear k1 k2 k3 k4 hT1 hT2 hT3 hT4 hv
  go_enter Tryd.func4, Tryd.ntmps4
  go_upto_region 1 with fail
  generalize (w.alloc (.cells #[.int .i64 t.secs, .bool t.utc, .bool t.date] 32)).alloc (.cells #[.int .i64 p.secs, .bool p.utc, .bool p.date, .int .i64 m] 43) = w0 at ha hz1 hz2 ⊢
  have HB := Lib.hid ha
  have HZ1 := Lib.hid hz1
  have HZ2 := Lib.hid hz2
  clear ha hz1 hz2
  obtain ⟨x0, x1, x2⟩ := HZ1.out.cells
  obtain ⟨z0, z1, z2, z3⟩ := HZ2.out.cells
  rcases j1 with rfl | ⟨i1, j1⟩ <;> rcases j2 with rfl | ⟨i2, j2⟩ <;> rcases j3 with rfl | ⟨i3, j3⟩ <;> rcases j4 with rfl | ⟨i4, j4⟩
  · go_wp2_with (first
      | (go_at_call 19; refine (a1 _ (HVV.out.step HB.out)).mono ?_; rintro e wn ⟨rfl, hbn⟩
         clear x0 x1 x2 z0 z1 z2 z3
         have HB' := Lib.hid (bstep HB.out hbn)
         have HZ1' := Lib.hid (HZ1.out.step hbn)
         have HZ2' := Lib.hid (HZ2.out.step hbn)
         clear HB HZ1 HZ2 hbn
         have HB := HB'
         have HZ1 := HZ1'
         have HZ2 := HZ2'
         clear HB' HZ1' HZ2'
         obtain ⟨x0, x1, x2⟩ := HZ1.out.cells
         obtain ⟨z0, z1, z2, z3⟩ := HZ2.out.cells)
      | (go_at_call 20; refine (a2 _ (HVV.out.step HB.out)).mono ?_; rintro e wn ⟨rfl, hbn⟩
         clear x0 x1 x2 z0 z1 z2 z3
         have HB' := Lib.hid (bstep HB.out hbn)
         have HZ1' := Lib.hid (HZ1.out.step hbn)
         have HZ2' := Lib.hid (HZ2.out.step hbn)
         clear HB HZ1 HZ2 hbn
         have HB := HB'
         have HZ1 := HZ1'
         have HZ2 := HZ2'
         clear HB' HZ1' HZ2'
         obtain ⟨x0, x1, x2⟩ := HZ1.out.cells
         obtain ⟨z0, z1, z2, z3⟩ := HZ2.out.cells)
      | (go_at_call 21; refine (a3 _ (HVV.out.step HB.out)).mono ?_; rintro e wn ⟨rfl, hbn⟩
         clear x0 x1 x2 z0 z1 z2 z3
         have HB' := Lib.hid (bstep HB.out hbn)
         have HZ1' := Lib.hid (HZ1.out.step hbn)
         have HZ2' := Lib.hid (HZ2.out.step hbn)
         clear HB HZ1 HZ2 hbn
         have HB := HB'
         have HZ1 := HZ1'
         have HZ2 := HZ2'
         clear HB' HZ1' HZ2'
         obtain ⟨x0, x1, x2⟩ := HZ1.out.cells
         obtain ⟨z0, z1, z2, z3⟩ := HZ2.out.cells)
      | (go_at_call 22; refine (a4 _ (HVV.out.step HB.out)).mono ?_; rintro e wn ⟨rfl, hbn⟩
         clear x0 x1 x2 z0 z1 z2 z3
         have HB' := Lib.hid (bstep HB.out hbn)
         have HZ1' := Lib.hid (HZ1.out.step hbn)
         have HZ2' := Lib.hid (HZ2.out.step hbn)
         clear HB HZ1 HZ2 hbn
         have HB := HB'
         have HZ1 := HZ1'
         have HZ2 := HZ2'
         clear HB' HZ1' HZ2'
         obtain ⟨x0, x1, x2⟩ := HZ1.out.cells
         obtain ⟨z0, z1, z2, z3⟩ := HZ2.out.cells)
      | (go_at_call 23; refine (a5 _).mono ?_; rintro e wn ⟨rfl, hbn⟩
         clear x0 x1 x2 z0 z1 z2 z3
         have HB' := Lib.hid (bstep HB.out hbn)
         have HZ1' := Lib.hid (HZ1.out.step hbn)
         have HZ2' := Lib.hid (HZ2.out.step hbn)
         clear HB HZ1 HZ2 hbn
         have HB := HB'
         have HZ1 := HZ1'
         have HZ2 := HZ2'
         clear HB' HZ1' HZ2'
         obtain ⟨x0, x1, x2⟩ := HZ1.out.cells
         obtain ⟨z0, z1, z2, z3⟩ := HZ2.out.cells)
      | (go_at_call 9; refine (b5 _).mono ?_; rintro e wn ⟨rfl, hbn⟩
         clear x0 x1 x2 z0 z1 z2 z3
         have HB' := Lib.hid (bstep HB.out hbn)
         have HZ1' := Lib.hid (HZ1.out.step hbn)
         have HZ2' := Lib.hid (HZ2.out.step hbn)
         clear HB HZ1 HZ2 hbn
         have HB := HB'
         have HZ1 := HZ1'
         have HZ2 := HZ2'
         clear HB' HZ1' HZ2'
         obtain ⟨x0, x1, x2⟩ := HZ1.out.cells
         obtain ⟨z0, z1, z2, z3⟩ := HZ2.out.cells)
      | (go_at_call 24; refine (b6 _).mono ?_; rintro e w' ⟨rfl, hw⟩; subst w')
      | (go_at_call 18; refine (HC.out _ (HVV.out.step HB.out)).mono ?_; rintro e wn ⟨rfl, hbn⟩
         clear x0 x1 x2 z0 z1 z2 z3
         have HB' := Lib.hid (bstep HB.out hbn)
         have HZ1' := Lib.hid (HZ1.out.step hbn)
         have HZ2' := Lib.hid (HZ2.out.step hbn)
         clear HB HZ1 HZ2 hbn
         have HB := HB'
         have HZ1 := HZ1'
         have HZ2 := HZ2'
         clear HB' HZ1' HZ2'
         obtain ⟨x0, x1, x2⟩ := HZ1.out.cells
         obtain ⟨z0, z1, z2, z3⟩ := HZ2.out.cells))
    go_ret
    exact ⟨rfl, HB.out⟩
  · go_wp2_with (first
      | (go_at_call 19; refine (a1 _ (HVV.out.step HB.out)).mono ?_; rintro e wn ⟨rfl, hbn⟩
         clear x0 x1 x2 z0 z1 z2 z3
         have HB' := Lib.hid (bstep HB.out hbn)
         have HZ1' := Lib.hid (HZ1.out.step hbn)
         have HZ2' := Lib.hid (HZ2.out.step hbn)
         clear HB HZ1 HZ2 hbn
         have HB := HB'
         have HZ1 := HZ1'
         have HZ2 := HZ2'
         clear HB' HZ1' HZ2'
         obtain ⟨x0, x1, x2⟩ := HZ1.out.cells
         obtain ⟨z0, z1, z2, z3⟩ := HZ2.out.cells)
      | (go_at_call 20; refine (a2 _ (HVV.out.step HB.out)).mono ?_; rintro e wn ⟨rfl, hbn⟩
         clear x0 x1 x2 z0 z1 z2 z3
         have HB' := Lib.hid (bstep HB.out hbn)
         have HZ1' := Lib.hid (HZ1.out.step hbn)
         have HZ2' := Lib.hid (HZ2.out.step hbn)
         clear HB HZ1 HZ2 hbn
         have HB := HB'
         have HZ1 := HZ1'
         have HZ2 := HZ2'
         clear HB' HZ1' HZ2'
         obtain ⟨x0, x1, x2⟩ := HZ1.out.cells
         obtain ⟨z0, z1, z2, z3⟩ := HZ2.out.cells)
      | (go_at_call 21; refine (a3 _ (HVV.out.step HB.out)).mono ?_; rintro e wn ⟨rfl, hbn⟩
         clear x0 x1 x2 z0 z1 z2 z3
         have HB' := Lib.hid (bstep HB.out hbn)
         have HZ1' := Lib.hid (HZ1.out.step hbn)
         have HZ2' := Lib.hid (HZ2.out.step hbn)
         clear HB HZ1 HZ2 hbn
         have HB := HB'
         have HZ1 := HZ1'
         have HZ2 := HZ2'
         clear HB' HZ1' HZ2'
         obtain ⟨x0, x1, x2⟩ := HZ1.out.cells
         obtain ⟨z0, z1, z2, z3⟩ := HZ2.out.cells)
      | (go_at_call 22; refine (a4 _ (HVV.out.step HB.out)).mono ?_; rintro e wn ⟨rfl, hbn⟩
         clear x0 x1 x2 z0 z1 z2 z3
         have HB' := Lib.hid (bstep HB.out hbn)
         have HZ1' := Lib.hid (HZ1.out.step hbn)
         have HZ2' := Lib.hid (HZ2.out.step hbn)
         clear HB HZ1 HZ2 hbn
         have HB := HB'
         have HZ1 := HZ1'
         have HZ2 := HZ2'
         clear HB' HZ1' HZ2'
         obtain ⟨x0, x1, x2⟩ := HZ1.out.cells
         obtain ⟨z0, z1, z2, z3⟩ := HZ2.out.cells)
      | (go_at_call 15; refine (j4 _ (HVV.out.step HB.out)).mono ?_; rintro e wn ⟨rfl, hbn⟩
         clear x0 x1 x2 z0 z1 z2 z3
         have HB' := Lib.hid (bstep HB.out (bstep hbn ((Below.refl _ wn).alloc (Nat.le_refl _) (.cells #[.int .i64 p.secs, .bool p.utc, .bool p.date, .int .i64 m] 43))))
         have HZ1' := Lib.hid (HZ1.out.step (bstep hbn ((Below.refl _ wn).alloc (Nat.le_refl _) (.cells #[.int .i64 p.secs, .bool p.utc, .bool p.date, .int .i64 m] 43))))
         have HZ2' := Lib.hid (HZ2.out.step (bstep hbn ((Below.refl _ wn).alloc (Nat.le_refl _) (.cells #[.int .i64 p.secs, .bool p.utc, .bool p.date, .int .i64 m] 43))))
         obtain ⟨v0, v1, v2, v3⟩ := (P4.new wn p m).cells
         clear HB HZ1 HZ2 hbn
         have HB := HB'
         have HZ1 := HZ1'
         have HZ2 := HZ2'
         clear HB' HZ1' HZ2'
         obtain ⟨x0, x1, x2⟩ := HZ1.out.cells
         obtain ⟨z0, z1, z2, z3⟩ := HZ2.out.cells)
      | (go_at_call 23; refine (a5 _).mono ?_; rintro e wn ⟨rfl, hbn⟩
         clear x0 x1 x2 z0 z1 z2 z3
         have HB' := Lib.hid (bstep HB.out hbn)
         have HZ1' := Lib.hid (HZ1.out.step hbn)
         have HZ2' := Lib.hid (HZ2.out.step hbn)
         clear HB HZ1 HZ2 hbn
         have HB := HB'
         have HZ1 := HZ1'
         have HZ2 := HZ2'
         clear HB' HZ1' HZ2'
         obtain ⟨x0, x1, x2⟩ := HZ1.out.cells
         obtain ⟨z0, z1, z2, z3⟩ := HZ2.out.cells)
      | (go_at_call 9; refine (b5 _).mono ?_; rintro e wn ⟨rfl, hbn⟩
         clear x0 x1 x2 z0 z1 z2 z3
         have HB' := Lib.hid (bstep HB.out hbn)
         have HZ1' := Lib.hid (HZ1.out.step hbn)
         have HZ2' := Lib.hid (HZ2.out.step hbn)
         clear HB HZ1 HZ2 hbn
         have HB := HB'
         have HZ1 := HZ1'
         have HZ2 := HZ2'
         clear HB' HZ1' HZ2'
         obtain ⟨x0, x1, x2⟩ := HZ1.out.cells
         obtain ⟨z0, z1, z2, z3⟩ := HZ2.out.cells)
      | (go_at_call 24; refine (b6 _).mono ?_; rintro e w' ⟨rfl, hw⟩; subst w')
      | (go_at_call 18; refine (HC.out _ (HVV.out.step HB.out)).mono ?_; rintro e wn ⟨rfl, hbn⟩
         clear x0 x1 x2 z0 z1 z2 z3
         have HB' := Lib.hid (bstep HB.out hbn)
         have HZ1' := Lib.hid (HZ1.out.step hbn)
         have HZ2' := Lib.hid (HZ2.out.step hbn)
         clear HB HZ1 HZ2 hbn
         have HB := HB'
         have HZ1 := HZ1'
         have HZ2 := HZ2'
         clear HB' HZ1' HZ2'
         obtain ⟨x0, x1, x2⟩ := HZ1.out.cells
         obtain ⟨z0, z1, z2, z3⟩ := HZ2.out.cells))
    go_ret
    exact ⟨rfl, HB.out⟩
  · go_wp2_with (first
      | (go_at_call 19; refine (a1 _ (HVV.out.step HB.out)).mono ?_; rintro e wn ⟨rfl, hbn⟩
         clear x0 x1 x2 z0 z1 z2 z3
         have HB' := Lib.hid (bstep HB.out hbn)
         have HZ1' := Lib.hid (HZ1.out.step hbn)
         have HZ2' := Lib.hid (HZ2.out.step hbn)
         clear HB HZ1 HZ2 hbn
         have HB := HB'
         have HZ1 := HZ1'
         have HZ2 := HZ2'
         clear HB' HZ1' HZ2'
         obtain ⟨x0, x1, x2⟩ := HZ1.out.cells
         obtain ⟨z0, z1, z2, z3⟩ := HZ2.out.cells)
      | (go_at_call 20; refine (a2 _ (HVV.out.step HB.out)).mono ?_; rintro e wn ⟨rfl, hbn⟩
         clear x0 x1 x2 z0 z1 z2 z3
         have HB' := Lib.hid (bstep HB.out hbn)
         have HZ1' := Lib.hid (HZ1.out.step hbn)
         have HZ2' := Lib.hid (HZ2.out.step hbn)
         clear HB HZ1 HZ2 hbn
         have HB := HB'
         have HZ1 := HZ1'
         have HZ2 := HZ2'
         clear HB' HZ1' HZ2'
         obtain ⟨x0, x1, x2⟩ := HZ1.out.cells
         obtain ⟨z0, z1, z2, z3⟩ := HZ2.out.cells)
      | (go_at_call 21; refine (a3 _ (HVV.out.step HB.out)).mono ?_; rintro e wn ⟨rfl, hbn⟩
         clear x0 x1 x2 z0 z1 z2 z3
         have HB' := Lib.hid (bstep HB.out hbn)
         have HZ1' := Lib.hid (HZ1.out.step hbn)
         have HZ2' := Lib.hid (HZ2.out.step hbn)
         clear HB HZ1 HZ2 hbn
         have HB := HB'
         have HZ1 := HZ1'
         have HZ2 := HZ2'
         clear HB' HZ1' HZ2'
         obtain ⟨x0, x1, x2⟩ := HZ1.out.cells
         obtain ⟨z0, z1, z2, z3⟩ := HZ2.out.cells)
      | (go_at_call 22; refine (a4 _ (HVV.out.step HB.out)).mono ?_; rintro e wn ⟨rfl, hbn⟩
         clear x0 x1 x2 z0 z1 z2 z3
         have HB' := Lib.hid (bstep HB.out hbn)
         have HZ1' := Lib.hid (HZ1.out.step hbn)
         have HZ2' := Lib.hid (HZ2.out.step hbn)
         clear HB HZ1 HZ2 hbn
         have HB := HB'
         have HZ1 := HZ1'
         have HZ2 := HZ2'
         clear HB' HZ1' HZ2'
         obtain ⟨x0, x1, x2⟩ := HZ1.out.cells
         obtain ⟨z0, z1, z2, z3⟩ := HZ2.out.cells)
      | (go_at_call 11; refine (j3 _ (HVV.out.step HB.out)).mono ?_; rintro e wn ⟨rfl, hbn⟩
         clear x0 x1 x2 z0 z1 z2 z3
         have HB' := Lib.hid (bstep HB.out (bstep hbn ((Below.refl _ wn).alloc (Nat.le_refl _) (.cells #[.int .i64 t.secs, .bool t.utc, .bool t.date] 32))))
         have HZ1' := Lib.hid (HZ1.out.step (bstep hbn ((Below.refl _ wn).alloc (Nat.le_refl _) (.cells #[.int .i64 t.secs, .bool t.utc, .bool t.date] 32))))
         have HZ2' := Lib.hid (HZ2.out.step (bstep hbn ((Below.refl _ wn).alloc (Nat.le_refl _) (.cells #[.int .i64 t.secs, .bool t.utc, .bool t.date] 32))))
         obtain ⟨u0, u1, u2⟩ := (H3.new wn t).cells
         clear HB HZ1 HZ2 hbn
         have HB := HB'
         have HZ1 := HZ1'
         have HZ2 := HZ2'
         clear HB' HZ1' HZ2'
         obtain ⟨x0, x1, x2⟩ := HZ1.out.cells
         obtain ⟨z0, z1, z2, z3⟩ := HZ2.out.cells)
      | (go_at_call 23; refine (a5 _).mono ?_; rintro e wn ⟨rfl, hbn⟩
         clear x0 x1 x2 z0 z1 z2 z3
         have HB' := Lib.hid (bstep HB.out hbn)
         have HZ1' := Lib.hid (HZ1.out.step hbn)
         have HZ2' := Lib.hid (HZ2.out.step hbn)
         clear HB HZ1 HZ2 hbn
         have HB := HB'
         have HZ1 := HZ1'
         have HZ2 := HZ2'
         clear HB' HZ1' HZ2'
         obtain ⟨x0, x1, x2⟩ := HZ1.out.cells
         obtain ⟨z0, z1, z2, z3⟩ := HZ2.out.cells)
      | (go_at_call 9; refine (b5 _).mono ?_; rintro e wn ⟨rfl, hbn⟩
         clear x0 x1 x2 z0 z1 z2 z3
         have HB' := Lib.hid (bstep HB.out hbn)
         have HZ1' := Lib.hid (HZ1.out.step hbn)
         have HZ2' := Lib.hid (HZ2.out.step hbn)
         clear HB HZ1 HZ2 hbn
         have HB := HB'
         have HZ1 := HZ1'
         have HZ2 := HZ2'
         clear HB' HZ1' HZ2'
         obtain ⟨x0, x1, x2⟩ := HZ1.out.cells
         obtain ⟨z0, z1, z2, z3⟩ := HZ2.out.cells)
      | (go_at_call 24; refine (b6 _).mono ?_; rintro e w' ⟨rfl, hw⟩; subst w')
      | (go_at_call 18; refine (HC.out _ (HVV.out.step HB.out)).mono ?_; rintro e wn ⟨rfl, hbn⟩
         clear x0 x1 x2 z0 z1 z2 z3
         have HB' := Lib.hid (bstep HB.out hbn)
         have HZ1' := Lib.hid (HZ1.out.step hbn)
         have HZ2' := Lib.hid (HZ2.out.step hbn)
         clear HB HZ1 HZ2 hbn
         have HB := HB'
         have HZ1 := HZ1'
         have HZ2 := HZ2'
         clear HB' HZ1' HZ2'
         obtain ⟨x0, x1, x2⟩ := HZ1.out.cells
         obtain ⟨z0, z1, z2, z3⟩ := HZ2.out.cells))
    go_ret
    exact ⟨rfl, HB.out⟩
  · go_wp2_with (first
      | (go_at_call 19; refine (a1 _ (HVV.out.step HB.out)).mono ?_; rintro e wn ⟨rfl, hbn⟩
         clear x0 x1 x2 z0 z1 z2 z3
         have HB' := Lib.hid (bstep HB.out hbn)
         have HZ1' := Lib.hid (HZ1.out.step hbn)
         have HZ2' := Lib.hid (HZ2.out.step hbn)
         clear HB HZ1 HZ2 hbn
         have HB := HB'
         have HZ1 := HZ1'
         have HZ2 := HZ2'
         clear HB' HZ1' HZ2'
         obtain ⟨x0, x1, x2⟩ := HZ1.out.cells
         obtain ⟨z0, z1, z2, z3⟩ := HZ2.out.cells)
      | (go_at_call 20; refine (a2 _ (HVV.out.step HB.out)).mono ?_; rintro e wn ⟨rfl, hbn⟩
         clear x0 x1 x2 z0 z1 z2 z3
         have HB' := Lib.hid (bstep HB.out hbn)
         have HZ1' := Lib.hid (HZ1.out.step hbn)
         have HZ2' := Lib.hid (HZ2.out.step hbn)
         clear HB HZ1 HZ2 hbn
         have HB := HB'
         have HZ1 := HZ1'
         have HZ2 := HZ2'
         clear HB' HZ1' HZ2'
         obtain ⟨x0, x1, x2⟩ := HZ1.out.cells
         obtain ⟨z0, z1, z2, z3⟩ := HZ2.out.cells)
      | (go_at_call 21; refine (a3 _ (HVV.out.step HB.out)).mono ?_; rintro e wn ⟨rfl, hbn⟩
         clear x0 x1 x2 z0 z1 z2 z3
         have HB' := Lib.hid (bstep HB.out hbn)
         have HZ1' := Lib.hid (HZ1.out.step hbn)
         have HZ2' := Lib.hid (HZ2.out.step hbn)
         clear HB HZ1 HZ2 hbn
         have HB := HB'
         have HZ1 := HZ1'
         have HZ2 := HZ2'
         clear HB' HZ1' HZ2'
         obtain ⟨x0, x1, x2⟩ := HZ1.out.cells
         obtain ⟨z0, z1, z2, z3⟩ := HZ2.out.cells)
      | (go_at_call 22; refine (a4 _ (HVV.out.step HB.out)).mono ?_; rintro e wn ⟨rfl, hbn⟩
         clear x0 x1 x2 z0 z1 z2 z3
         have HB' := Lib.hid (bstep HB.out hbn)
         have HZ1' := Lib.hid (HZ1.out.step hbn)
         have HZ2' := Lib.hid (HZ2.out.step hbn)
         clear HB HZ1 HZ2 hbn
         have HB := HB'
         have HZ1 := HZ1'
         have HZ2 := HZ2'
         clear HB' HZ1' HZ2'
         obtain ⟨x0, x1, x2⟩ := HZ1.out.cells
         obtain ⟨z0, z1, z2, z3⟩ := HZ2.out.cells)
      | (go_at_call 11; refine (j3 _ (HVV.out.step HB.out)).mono ?_; rintro e wn ⟨rfl, hbn⟩
         clear x0 x1 x2 z0 z1 z2 z3
         have HB' := Lib.hid (bstep HB.out (bstep hbn ((Below.refl _ wn).alloc (Nat.le_refl _) (.cells #[.int .i64 t.secs, .bool t.utc, .bool t.date] 32))))
         have HZ1' := Lib.hid (HZ1.out.step (bstep hbn ((Below.refl _ wn).alloc (Nat.le_refl _) (.cells #[.int .i64 t.secs, .bool t.utc, .bool t.date] 32))))
         have HZ2' := Lib.hid (HZ2.out.step (bstep hbn ((Below.refl _ wn).alloc (Nat.le_refl _) (.cells #[.int .i64 t.secs, .bool t.utc, .bool t.date] 32))))
         obtain ⟨u0, u1, u2⟩ := (H3.new wn t).cells
         clear HB HZ1 HZ2 hbn
         have HB := HB'
         have HZ1 := HZ1'
         have HZ2 := HZ2'
         clear HB' HZ1' HZ2'
         obtain ⟨x0, x1, x2⟩ := HZ1.out.cells
         obtain ⟨z0, z1, z2, z3⟩ := HZ2.out.cells)
      | (go_at_call 15; refine (j4 _ (HVV.out.step HB.out)).mono ?_; rintro e wn ⟨rfl, hbn⟩
         clear x0 x1 x2 z0 z1 z2 z3
         have HB' := Lib.hid (bstep HB.out (bstep hbn ((Below.refl _ wn).alloc (Nat.le_refl _) (.cells #[.int .i64 p.secs, .bool p.utc, .bool p.date, .int .i64 m] 43))))
         have HZ1' := Lib.hid (HZ1.out.step (bstep hbn ((Below.refl _ wn).alloc (Nat.le_refl _) (.cells #[.int .i64 p.secs, .bool p.utc, .bool p.date, .int .i64 m] 43))))
         have HZ2' := Lib.hid (HZ2.out.step (bstep hbn ((Below.refl _ wn).alloc (Nat.le_refl _) (.cells #[.int .i64 p.secs, .bool p.utc, .bool p.date, .int .i64 m] 43))))
         obtain ⟨v0, v1, v2, v3⟩ := (P4.new wn p m).cells
         clear HB HZ1 HZ2 hbn
         have HB := HB'
         have HZ1 := HZ1'
         have HZ2 := HZ2'
         clear HB' HZ1' HZ2'
         obtain ⟨x0, x1, x2⟩ := HZ1.out.cells
         obtain ⟨z0, z1, z2, z3⟩ := HZ2.out.cells)
      | (go_at_call 23; refine (a5 _).mono ?_; rintro e wn ⟨rfl, hbn⟩
         clear x0 x1 x2 z0 z1 z2 z3
         have HB' := Lib.hid (bstep HB.out hbn)
         have HZ1' := Lib.hid (HZ1.out.step hbn)
         have HZ2' := Lib.hid (HZ2.out.step hbn)
         clear HB HZ1 HZ2 hbn
         have HB := HB'
         have HZ1 := HZ1'
         have HZ2 := HZ2'
         clear HB' HZ1' HZ2'
         obtain ⟨x0, x1, x2⟩ := HZ1.out.cells
         obtain ⟨z0, z1, z2, z3⟩ := HZ2.out.cells)
      | (go_at_call 9; refine (b5 _).mono ?_; rintro e wn ⟨rfl, hbn⟩
         clear x0 x1 x2 z0 z1 z2 z3
         have HB' := Lib.hid (bstep HB.out hbn)
         have HZ1' := Lib.hid (HZ1.out.step hbn)
         have HZ2' := Lib.hid (HZ2.out.step hbn)
         clear HB HZ1 HZ2 hbn
         have HB := HB'
         have HZ1 := HZ1'
         have HZ2 := HZ2'
         clear HB' HZ1' HZ2'
         obtain ⟨x0, x1, x2⟩ := HZ1.out.cells
         obtain ⟨z0, z1, z2, z3⟩ := HZ2.out.cells)
      | (go_at_call 24; refine (b6 _).mono ?_; rintro e w' ⟨rfl, hw⟩; subst w')
      | (go_at_call 18; refine (HC.out _ (HVV.out.step HB.out)).mono ?_; rintro e wn ⟨rfl, hbn⟩
         clear x0 x1 x2 z0 z1 z2 z3
         have HB' := Lib.hid (bstep HB.out hbn)
         have HZ1' := Lib.hid (HZ1.out.step hbn)
         have HZ2' := Lib.hid (HZ2.out.step hbn)
         clear HB HZ1 HZ2 hbn
         have HB := HB'
         have HZ1 := HZ1'
         have HZ2 := HZ2'
         clear HB' HZ1' HZ2'
         obtain ⟨x0, x1, x2⟩ := HZ1.out.cells
         obtain ⟨z0, z1, z2, z3⟩ := HZ2.out.cells))
    go_ret
    exact ⟨rfl, HB.out⟩
  · go_wp2_with (first
      | (go_at_call 19; refine (a1 _ (HVV.out.step HB.out)).mono ?_; rintro e wn ⟨rfl, hbn⟩
         clear x0 x1 x2 z0 z1 z2 z3
         have HB' := Lib.hid (bstep HB.out hbn)
         have HZ1' := Lib.hid (HZ1.out.step hbn)
         have HZ2' := Lib.hid (HZ2.out.step hbn)
         clear HB HZ1 HZ2 hbn
         have HB := HB'
         have HZ1 := HZ1'
         have HZ2 := HZ2'
         clear HB' HZ1' HZ2'
         obtain ⟨x0, x1, x2⟩ := HZ1.out.cells
         obtain ⟨z0, z1, z2, z3⟩ := HZ2.out.cells)
      | (go_at_call 20; refine (a2 _ (HVV.out.step HB.out)).mono ?_; rintro e wn ⟨rfl, hbn⟩
         clear x0 x1 x2 z0 z1 z2 z3
         have HB' := Lib.hid (bstep HB.out hbn)
         have HZ1' := Lib.hid (HZ1.out.step hbn)
         have HZ2' := Lib.hid (HZ2.out.step hbn)
         clear HB HZ1 HZ2 hbn
         have HB := HB'
         have HZ1 := HZ1'
         have HZ2 := HZ2'
         clear HB' HZ1' HZ2'
         obtain ⟨x0, x1, x2⟩ := HZ1.out.cells
         obtain ⟨z0, z1, z2, z3⟩ := HZ2.out.cells)
      | (go_at_call 21; refine (a3 _ (HVV.out.step HB.out)).mono ?_; rintro e wn ⟨rfl, hbn⟩
         clear x0 x1 x2 z0 z1 z2 z3
         have HB' := Lib.hid (bstep HB.out hbn)
         have HZ1' := Lib.hid (HZ1.out.step hbn)
         have HZ2' := Lib.hid (HZ2.out.step hbn)
         clear HB HZ1 HZ2 hbn
         have HB := HB'
         have HZ1 := HZ1'
         have HZ2 := HZ2'
         clear HB' HZ1' HZ2'
         obtain ⟨x0, x1, x2⟩ := HZ1.out.cells
         obtain ⟨z0, z1, z2, z3⟩ := HZ2.out.cells)
      | (go_at_call 22; refine (a4 _ (HVV.out.step HB.out)).mono ?_; rintro e wn ⟨rfl, hbn⟩
         clear x0 x1 x2 z0 z1 z2 z3
         have HB' := Lib.hid (bstep HB.out hbn)
         have HZ1' := Lib.hid (HZ1.out.step hbn)
         have HZ2' := Lib.hid (HZ2.out.step hbn)
         clear HB HZ1 HZ2 hbn
         have HB := HB'
         have HZ1 := HZ1'
         have HZ2 := HZ2'
         clear HB' HZ1' HZ2'
         obtain ⟨x0, x1, x2⟩ := HZ1.out.cells
         obtain ⟨z0, z1, z2, z3⟩ := HZ2.out.cells)
      | (go_at_call 7; refine (j2 _ (HVV.out.step HB.out)).mono ?_; rintro e wn ⟨rfl, hbn⟩
         clear x0 x1 x2 z0 z1 z2 z3
         have HB' := Lib.hid (bstep HB.out hbn)
         have HZ1' := Lib.hid (HZ1.out.step hbn)
         have HZ2' := Lib.hid (HZ2.out.step hbn)
         clear HB HZ1 HZ2 hbn
         have HB := HB'
         have HZ1 := HZ1'
         have HZ2 := HZ2'
         clear HB' HZ1' HZ2'
         obtain ⟨x0, x1, x2⟩ := HZ1.out.cells
         obtain ⟨z0, z1, z2, z3⟩ := HZ2.out.cells)
      | (go_at_call 23; refine (a5 _).mono ?_; rintro e wn ⟨rfl, hbn⟩
         clear x0 x1 x2 z0 z1 z2 z3
         have HB' := Lib.hid (bstep HB.out hbn)
         have HZ1' := Lib.hid (HZ1.out.step hbn)
         have HZ2' := Lib.hid (HZ2.out.step hbn)
         clear HB HZ1 HZ2 hbn
         have HB := HB'
         have HZ1 := HZ1'
         have HZ2 := HZ2'
         clear HB' HZ1' HZ2'
         obtain ⟨x0, x1, x2⟩ := HZ1.out.cells
         obtain ⟨z0, z1, z2, z3⟩ := HZ2.out.cells)
      | (go_at_call 9; refine (b5 _).mono ?_; rintro e wn ⟨rfl, hbn⟩
         clear x0 x1 x2 z0 z1 z2 z3
         have HB' := Lib.hid (bstep HB.out hbn)
         have HZ1' := Lib.hid (HZ1.out.step hbn)
         have HZ2' := Lib.hid (HZ2.out.step hbn)
         clear HB HZ1 HZ2 hbn
         have HB := HB'
         have HZ1 := HZ1'
         have HZ2 := HZ2'
         clear HB' HZ1' HZ2'
         obtain ⟨x0, x1, x2⟩ := HZ1.out.cells
         obtain ⟨z0, z1, z2, z3⟩ := HZ2.out.cells)
      | (go_at_call 24; refine (b6 _).mono ?_; rintro e w' ⟨rfl, hw⟩; subst w')
      | (go_at_call 18; refine (HC.out _ (HVV.out.step HB.out)).mono ?_; rintro e wn ⟨rfl, hbn⟩
         clear x0 x1 x2 z0 z1 z2 z3
         have HB' := Lib.hid (bstep HB.out hbn)
         have HZ1' := Lib.hid (HZ1.out.step hbn)
         have HZ2' := Lib.hid (HZ2.out.step hbn)
         clear HB HZ1 HZ2 hbn
         have HB := HB'
         have HZ1 := HZ1'
         have HZ2 := HZ2'
         clear HB' HZ1' HZ2'
         obtain ⟨x0, x1, x2⟩ := HZ1.out.cells
         obtain ⟨z0, z1, z2, z3⟩ := HZ2.out.cells))
    go_ret
    exact ⟨rfl, HB.out⟩
  · go_wp2_with (first
      | (go_at_call 19; refine (a1 _ (HVV.out.step HB.out)).mono ?_; rintro e wn ⟨rfl, hbn⟩
         clear x0 x1 x2 z0 z1 z2 z3
         have HB' := Lib.hid (bstep HB.out hbn)
         have HZ1' := Lib.hid (HZ1.out.step hbn)
         have HZ2' := Lib.hid (HZ2.out.step hbn)
         clear HB HZ1 HZ2 hbn
         have HB := HB'
         have HZ1 := HZ1'
         have HZ2 := HZ2'
         clear HB' HZ1' HZ2'
         obtain ⟨x0, x1, x2⟩ := HZ1.out.cells
         obtain ⟨z0, z1, z2, z3⟩ := HZ2.out.cells)
      | (go_at_call 20; refine (a2 _ (HVV.out.step HB.out)).mono ?_; rintro e wn ⟨rfl, hbn⟩
         clear x0 x1 x2 z0 z1 z2 z3
         have HB' := Lib.hid (bstep HB.out hbn)
         have HZ1' := Lib.hid (HZ1.out.step hbn)
         have HZ2' := Lib.hid (HZ2.out.step hbn)
         clear HB HZ1 HZ2 hbn
         have HB := HB'
         have HZ1 := HZ1'
         have HZ2 := HZ2'
         clear HB' HZ1' HZ2'
         obtain ⟨x0, x1, x2⟩ := HZ1.out.cells
         obtain ⟨z0, z1, z2, z3⟩ := HZ2.out.cells)
      | (go_at_call 21; refine (a3 _ (HVV.out.step HB.out)).mono ?_; rintro e wn ⟨rfl, hbn⟩
         clear x0 x1 x2 z0 z1 z2 z3
         have HB' := Lib.hid (bstep HB.out hbn)
         have HZ1' := Lib.hid (HZ1.out.step hbn)
         have HZ2' := Lib.hid (HZ2.out.step hbn)
         clear HB HZ1 HZ2 hbn
         have HB := HB'
         have HZ1 := HZ1'
         have HZ2 := HZ2'
         clear HB' HZ1' HZ2'
         obtain ⟨x0, x1, x2⟩ := HZ1.out.cells
         obtain ⟨z0, z1, z2, z3⟩ := HZ2.out.cells)
      | (go_at_call 22; refine (a4 _ (HVV.out.step HB.out)).mono ?_; rintro e wn ⟨rfl, hbn⟩
         clear x0 x1 x2 z0 z1 z2 z3
         have HB' := Lib.hid (bstep HB.out hbn)
         have HZ1' := Lib.hid (HZ1.out.step hbn)
         have HZ2' := Lib.hid (HZ2.out.step hbn)
         clear HB HZ1 HZ2 hbn
         have HB := HB'
         have HZ1 := HZ1'
         have HZ2 := HZ2'
         clear HB' HZ1' HZ2'
         obtain ⟨x0, x1, x2⟩ := HZ1.out.cells
         obtain ⟨z0, z1, z2, z3⟩ := HZ2.out.cells)
      | (go_at_call 7; refine (j2 _ (HVV.out.step HB.out)).mono ?_; rintro e wn ⟨rfl, hbn⟩
         clear x0 x1 x2 z0 z1 z2 z3
         have HB' := Lib.hid (bstep HB.out hbn)
         have HZ1' := Lib.hid (HZ1.out.step hbn)
         have HZ2' := Lib.hid (HZ2.out.step hbn)
         clear HB HZ1 HZ2 hbn
         have HB := HB'
         have HZ1 := HZ1'
         have HZ2 := HZ2'
         clear HB' HZ1' HZ2'
         obtain ⟨x0, x1, x2⟩ := HZ1.out.cells
         obtain ⟨z0, z1, z2, z3⟩ := HZ2.out.cells)
      | (go_at_call 15; refine (j4 _ (HVV.out.step HB.out)).mono ?_; rintro e wn ⟨rfl, hbn⟩
         clear x0 x1 x2 z0 z1 z2 z3
         have HB' := Lib.hid (bstep HB.out (bstep hbn ((Below.refl _ wn).alloc (Nat.le_refl _) (.cells #[.int .i64 p.secs, .bool p.utc, .bool p.date, .int .i64 m] 43))))
         have HZ1' := Lib.hid (HZ1.out.step (bstep hbn ((Below.refl _ wn).alloc (Nat.le_refl _) (.cells #[.int .i64 p.secs, .bool p.utc, .bool p.date, .int .i64 m] 43))))
         have HZ2' := Lib.hid (HZ2.out.step (bstep hbn ((Below.refl _ wn).alloc (Nat.le_refl _) (.cells #[.int .i64 p.secs, .bool p.utc, .bool p.date, .int .i64 m] 43))))
         obtain ⟨v0, v1, v2, v3⟩ := (P4.new wn p m).cells
         clear HB HZ1 HZ2 hbn
         have HB := HB'
         have HZ1 := HZ1'
         have HZ2 := HZ2'
         clear HB' HZ1' HZ2'
         obtain ⟨x0, x1, x2⟩ := HZ1.out.cells
         obtain ⟨z0, z1, z2, z3⟩ := HZ2.out.cells)
      | (go_at_call 23; refine (a5 _).mono ?_; rintro e wn ⟨rfl, hbn⟩
         clear x0 x1 x2 z0 z1 z2 z3
         have HB' := Lib.hid (bstep HB.out hbn)
         have HZ1' := Lib.hid (HZ1.out.step hbn)
         have HZ2' := Lib.hid (HZ2.out.step hbn)
         clear HB HZ1 HZ2 hbn
         have HB := HB'
         have HZ1 := HZ1'
         have HZ2 := HZ2'
         clear HB' HZ1' HZ2'
         obtain ⟨x0, x1, x2⟩ := HZ1.out.cells
         obtain ⟨z0, z1, z2, z3⟩ := HZ2.out.cells)
      | (go_at_call 9; refine (b5 _).mono ?_; rintro e wn ⟨rfl, hbn⟩
         clear x0 x1 x2 z0 z1 z2 z3
         have HB' := Lib.hid (bstep HB.out hbn)
         have HZ1' := Lib.hid (HZ1.out.step hbn)
         have HZ2' := Lib.hid (HZ2.out.step hbn)
         clear HB HZ1 HZ2 hbn
         have HB := HB'
         have HZ1 := HZ1'
         have HZ2 := HZ2'
         clear HB' HZ1' HZ2'
         obtain ⟨x0, x1, x2⟩ := HZ1.out.cells
         obtain ⟨z0, z1, z2, z3⟩ := HZ2.out.cells)
      | (go_at_call 24; refine (b6 _).mono ?_; rintro e w' ⟨rfl, hw⟩; subst w')
      | (go_at_call 18; refine (HC.out _ (HVV.out.step HB.out)).mono ?_; rintro e wn ⟨rfl, hbn⟩
         clear x0 x1 x2 z0 z1 z2 z3
         have HB' := Lib.hid (bstep HB.out hbn)
         have HZ1' := Lib.hid (HZ1.out.step hbn)
         have HZ2' := Lib.hid (HZ2.out.step hbn)
         clear HB HZ1 HZ2 hbn
         have HB := HB'
         have HZ1 := HZ1'
         have HZ2 := HZ2'
         clear HB' HZ1' HZ2'
         obtain ⟨x0, x1, x2⟩ := HZ1.out.cells
         obtain ⟨z0, z1, z2, z3⟩ := HZ2.out.cells))
    go_ret
    exact ⟨rfl, HB.out⟩
  · go_wp2_with (first
      | (go_at_call 19; refine (a1 _ (HVV.out.step HB.out)).mono ?_; rintro e wn ⟨rfl, hbn⟩
         clear x0 x1 x2 z0 z1 z2 z3
         have HB' := Lib.hid (bstep HB.out hbn)
         have HZ1' := Lib.hid (HZ1.out.step hbn)
         have HZ2' := Lib.hid (HZ2.out.step hbn)
         clear HB HZ1 HZ2 hbn
         have HB := HB'
         have HZ1 := HZ1'
         have HZ2 := HZ2'
         clear HB' HZ1' HZ2'
         obtain ⟨x0, x1, x2⟩ := HZ1.out.cells
         obtain ⟨z0, z1, z2, z3⟩ := HZ2.out.cells)
      | (go_at_call 20; refine (a2 _ (HVV.out.step HB.out)).mono ?_; rintro e wn ⟨rfl, hbn⟩
         clear x0 x1 x2 z0 z1 z2 z3
         have HB' := Lib.hid (bstep HB.out hbn)
         have HZ1' := Lib.hid (HZ1.out.step hbn)
         have HZ2' := Lib.hid (HZ2.out.step hbn)
         clear HB HZ1 HZ2 hbn
         have HB := HB'
         have HZ1 := HZ1'
         have HZ2 := HZ2'
         clear HB' HZ1' HZ2'
         obtain ⟨x0, x1, x2⟩ := HZ1.out.cells
         obtain ⟨z0, z1, z2, z3⟩ := HZ2.out.cells)
      | (go_at_call 21; refine (a3 _ (HVV.out.step HB.out)).mono ?_; rintro e wn ⟨rfl, hbn⟩
         clear x0 x1 x2 z0 z1 z2 z3
         have HB' := Lib.hid (bstep HB.out hbn)
         have HZ1' := Lib.hid (HZ1.out.step hbn)
         have HZ2' := Lib.hid (HZ2.out.step hbn)
         clear HB HZ1 HZ2 hbn
         have HB := HB'
         have HZ1 := HZ1'
         have HZ2 := HZ2'
         clear HB' HZ1' HZ2'
         obtain ⟨x0, x1, x2⟩ := HZ1.out.cells
         obtain ⟨z0, z1, z2, z3⟩ := HZ2.out.cells)
      | (go_at_call 22; refine (a4 _ (HVV.out.step HB.out)).mono ?_; rintro e wn ⟨rfl, hbn⟩
         clear x0 x1 x2 z0 z1 z2 z3
         have HB' := Lib.hid (bstep HB.out hbn)
         have HZ1' := Lib.hid (HZ1.out.step hbn)
         have HZ2' := Lib.hid (HZ2.out.step hbn)
         clear HB HZ1 HZ2 hbn
         have HB := HB'
         have HZ1 := HZ1'
         have HZ2 := HZ2'
         clear HB' HZ1' HZ2'
         obtain ⟨x0, x1, x2⟩ := HZ1.out.cells
         obtain ⟨z0, z1, z2, z3⟩ := HZ2.out.cells)
      | (go_at_call 7; refine (j2 _ (HVV.out.step HB.out)).mono ?_; rintro e wn ⟨rfl, hbn⟩
         clear x0 x1 x2 z0 z1 z2 z3
         have HB' := Lib.hid (bstep HB.out hbn)
         have HZ1' := Lib.hid (HZ1.out.step hbn)
         have HZ2' := Lib.hid (HZ2.out.step hbn)
         clear HB HZ1 HZ2 hbn
         have HB := HB'
         have HZ1 := HZ1'
         have HZ2 := HZ2'
         clear HB' HZ1' HZ2'
         obtain ⟨x0, x1, x2⟩ := HZ1.out.cells
         obtain ⟨z0, z1, z2, z3⟩ := HZ2.out.cells)
      | (go_at_call 11; refine (j3 _ (HVV.out.step HB.out)).mono ?_; rintro e wn ⟨rfl, hbn⟩
         clear x0 x1 x2 z0 z1 z2 z3
         have HB' := Lib.hid (bstep HB.out (bstep hbn ((Below.refl _ wn).alloc (Nat.le_refl _) (.cells #[.int .i64 t.secs, .bool t.utc, .bool t.date] 32))))
         have HZ1' := Lib.hid (HZ1.out.step (bstep hbn ((Below.refl _ wn).alloc (Nat.le_refl _) (.cells #[.int .i64 t.secs, .bool t.utc, .bool t.date] 32))))
         have HZ2' := Lib.hid (HZ2.out.step (bstep hbn ((Below.refl _ wn).alloc (Nat.le_refl _) (.cells #[.int .i64 t.secs, .bool t.utc, .bool t.date] 32))))
         obtain ⟨u0, u1, u2⟩ := (H3.new wn t).cells
         clear HB HZ1 HZ2 hbn
         have HB := HB'
         have HZ1 := HZ1'
         have HZ2 := HZ2'
         clear HB' HZ1' HZ2'
         obtain ⟨x0, x1, x2⟩ := HZ1.out.cells
         obtain ⟨z0, z1, z2, z3⟩ := HZ2.out.cells)
      | (go_at_call 23; refine (a5 _).mono ?_; rintro e wn ⟨rfl, hbn⟩
         clear x0 x1 x2 z0 z1 z2 z3
         have HB' := Lib.hid (bstep HB.out hbn)
         have HZ1' := Lib.hid (HZ1.out.step hbn)
         have HZ2' := Lib.hid (HZ2.out.step hbn)
         clear HB HZ1 HZ2 hbn
         have HB := HB'
         have HZ1 := HZ1'
         have HZ2 := HZ2'
         clear HB' HZ1' HZ2'
         obtain ⟨x0, x1, x2⟩ := HZ1.out.cells
         obtain ⟨z0, z1, z2, z3⟩ := HZ2.out.cells)
      | (go_at_call 9; refine (b5 _).mono ?_; rintro e wn ⟨rfl, hbn⟩
         clear x0 x1 x2 z0 z1 z2 z3
         have HB' := Lib.hid (bstep HB.out hbn)
         have HZ1' := Lib.hid (HZ1.out.step hbn)
         have HZ2' := Lib.hid (HZ2.out.step hbn)
         clear HB HZ1 HZ2 hbn
         have HB := HB'
         have HZ1 := HZ1'
         have HZ2 := HZ2'
         clear HB' HZ1' HZ2'
         obtain ⟨x0, x1, x2⟩ := HZ1.out.cells
         obtain ⟨z0, z1, z2, z3⟩ := HZ2.out.cells)
      | (go_at_call 24; refine (b6 _).mono ?_; rintro e w' ⟨rfl, hw⟩; subst w')
      | (go_at_call 18; refine (HC.out _ (HVV.out.step HB.out)).mono ?_; rintro e wn ⟨rfl, hbn⟩
         clear x0 x1 x2 z0 z1 z2 z3
         have HB' := Lib.hid (bstep HB.out hbn)
         have HZ1' := Lib.hid (HZ1.out.step hbn)
         have HZ2' := Lib.hid (HZ2.out.step hbn)
         clear HB HZ1 HZ2 hbn
         have HB := HB'
         have HZ1 := HZ1'
         have HZ2 := HZ2'
         clear HB' HZ1' HZ2'
         obtain ⟨x0, x1, x2⟩ := HZ1.out.cells
         obtain ⟨z0, z1, z2, z3⟩ := HZ2.out.cells))
    go_ret
    exact ⟨rfl, HB.out⟩
  · go_wp2_with (first
      | (go_at_call 19; refine (a1 _ (HVV.out.step HB.out)).mono ?_; rintro e wn ⟨rfl, hbn⟩
         clear x0 x1 x2 z0 z1 z2 z3
         have HB' := Lib.hid (bstep HB.out hbn)
         have HZ1' := Lib.hid (HZ1.out.step hbn)
         have HZ2' := Lib.hid (HZ2.out.step hbn)
         clear HB HZ1 HZ2 hbn
         have HB := HB'
         have HZ1 := HZ1'
         have HZ2 := HZ2'
         clear HB' HZ1' HZ2'
         obtain ⟨x0, x1, x2⟩ := HZ1.out.cells
         obtain ⟨z0, z1, z2, z3⟩ := HZ2.out.cells)
      | (go_at_call 20; refine (a2 _ (HVV.out.step HB.out)).mono ?_; rintro e wn ⟨rfl, hbn⟩
         clear x0 x1 x2 z0 z1 z2 z3
         have HB' := Lib.hid (bstep HB.out hbn)
         have HZ1' := Lib.hid (HZ1.out.step hbn)
         have HZ2' := Lib.hid (HZ2.out.step hbn)
         clear HB HZ1 HZ2 hbn
         have HB := HB'
         have HZ1 := HZ1'
         have HZ2 := HZ2'
         clear HB' HZ1' HZ2'
         obtain ⟨x0, x1, x2⟩ := HZ1.out.cells
         obtain ⟨z0, z1, z2, z3⟩ := HZ2.out.cells)
      | (go_at_call 21; refine (a3 _ (HVV.out.step HB.out)).mono ?_; rintro e wn ⟨rfl, hbn⟩
         clear x0 x1 x2 z0 z1 z2 z3
         have HB' := Lib.hid (bstep HB.out hbn)
         have HZ1' := Lib.hid (HZ1.out.step hbn)
         have HZ2' := Lib.hid (HZ2.out.step hbn)
         clear HB HZ1 HZ2 hbn
         have HB := HB'
         have HZ1 := HZ1'
         have HZ2 := HZ2'
         clear HB' HZ1' HZ2'
         obtain ⟨x0, x1, x2⟩ := HZ1.out.cells
         obtain ⟨z0, z1, z2, z3⟩ := HZ2.out.cells)
      | (go_at_call 22; refine (a4 _ (HVV.out.step HB.out)).mono ?_; rintro e wn ⟨rfl, hbn⟩
         clear x0 x1 x2 z0 z1 z2 z3
         have HB' := Lib.hid (bstep HB.out hbn)
         have HZ1' := Lib.hid (HZ1.out.step hbn)
         have HZ2' := Lib.hid (HZ2.out.step hbn)
         clear HB HZ1 HZ2 hbn
         have HB := HB'
         have HZ1 := HZ1'
         have HZ2 := HZ2'
         clear HB' HZ1' HZ2'
         obtain ⟨x0, x1, x2⟩ := HZ1.out.cells
         obtain ⟨z0, z1, z2, z3⟩ := HZ2.out.cells)
      | (go_at_call 7; refine (j2 _ (HVV.out.step HB.out)).mono ?_; rintro e wn ⟨rfl, hbn⟩
         clear x0 x1 x2 z0 z1 z2 z3
         have HB' := Lib.hid (bstep HB.out hbn)
         have HZ1' := Lib.hid (HZ1.out.step hbn)
         have HZ2' := Lib.hid (HZ2.out.step hbn)
         clear HB HZ1 HZ2 hbn
         have HB := HB'
         have HZ1 := HZ1'
         have HZ2 := HZ2'
         clear HB' HZ1' HZ2'
         obtain ⟨x0, x1, x2⟩ := HZ1.out.cells
         obtain ⟨z0, z1, z2, z3⟩ := HZ2.out.cells)
      | (go_at_call 11; refine (j3 _ (HVV.out.step HB.out)).mono ?_; rintro e wn ⟨rfl, hbn⟩
         clear x0 x1 x2 z0 z1 z2 z3
         have HB' := Lib.hid (bstep HB.out (bstep hbn ((Below.refl _ wn).alloc (Nat.le_refl _) (.cells #[.int .i64 t.secs, .bool t.utc, .bool t.date] 32))))
         have HZ1' := Lib.hid (HZ1.out.step (bstep hbn ((Below.refl _ wn).alloc (Nat.le_refl _) (.cells #[.int .i64 t.secs, .bool t.utc, .bool t.date] 32))))
         have HZ2' := Lib.hid (HZ2.out.step (bstep hbn ((Below.refl _ wn).alloc (Nat.le_refl _) (.cells #[.int .i64 t.secs, .bool t.utc, .bool t.date] 32))))
         obtain ⟨u0, u1, u2⟩ := (H3.new wn t).cells
         clear HB HZ1 HZ2 hbn
         have HB := HB'
         have HZ1 := HZ1'
         have HZ2 := HZ2'
         clear HB' HZ1' HZ2'
         obtain ⟨x0, x1, x2⟩ := HZ1.out.cells
         obtain ⟨z0, z1, z2, z3⟩ := HZ2.out.cells)
      | (go_at_call 15; refine (j4 _ (HVV.out.step HB.out)).mono ?_; rintro e wn ⟨rfl, hbn⟩
         clear x0 x1 x2 z0 z1 z2 z3
         have HB' := Lib.hid (bstep HB.out (bstep hbn ((Below.refl _ wn).alloc (Nat.le_refl _) (.cells #[.int .i64 p.secs, .bool p.utc, .bool p.date, .int .i64 m] 43))))
         have HZ1' := Lib.hid (HZ1.out.step (bstep hbn ((Below.refl _ wn).alloc (Nat.le_refl _) (.cells #[.int .i64 p.secs, .bool p.utc, .bool p.date, .int .i64 m] 43))))
         have HZ2' := Lib.hid (HZ2.out.step (bstep hbn ((Below.refl _ wn).alloc (Nat.le_refl _) (.cells #[.int .i64 p.secs, .bool p.utc, .bool p.date, .int .i64 m] 43))))
         obtain ⟨v0, v1, v2, v3⟩ := (P4.new wn p m).cells
         clear HB HZ1 HZ2 hbn
         have HB := HB'
         have HZ1 := HZ1'
         have HZ2 := HZ2'
         clear HB' HZ1' HZ2'
         obtain ⟨x0, x1, x2⟩ := HZ1.out.cells
         obtain ⟨z0, z1, z2, z3⟩ := HZ2.out.cells)
      | (go_at_call 23; refine (a5 _).mono ?_; rintro e wn ⟨rfl, hbn⟩
         clear x0 x1 x2 z0 z1 z2 z3
         have HB' := Lib.hid (bstep HB.out hbn)
         have HZ1' := Lib.hid (HZ1.out.step hbn)
         have HZ2' := Lib.hid (HZ2.out.step hbn)
         clear HB HZ1 HZ2 hbn
         have HB := HB'
         have HZ1 := HZ1'
         have HZ2 := HZ2'
         clear HB' HZ1' HZ2'
         obtain ⟨x0, x1, x2⟩ := HZ1.out.cells
         obtain ⟨z0, z1, z2, z3⟩ := HZ2.out.cells)
      | (go_at_call 9; refine (b5 _).mono ?_; rintro e wn ⟨rfl, hbn⟩
         clear x0 x1 x2 z0 z1 z2 z3
         have HB' := Lib.hid (bstep HB.out hbn)
         have HZ1' := Lib.hid (HZ1.out.step hbn)
         have HZ2' := Lib.hid (HZ2.out.step hbn)
         clear HB HZ1 HZ2 hbn
         have HB := HB'
         have HZ1 := HZ1'
         have HZ2 := HZ2'
         clear HB' HZ1' HZ2'
         obtain ⟨x0, x1, x2⟩ := HZ1.out.cells
         obtain ⟨z0, z1, z2, z3⟩ := HZ2.out.cells)
      | (go_at_call 24; refine (b6 _).mono ?_; rintro e w' ⟨rfl, hw⟩; subst w')
      | (go_at_call 18; refine (HC.out _ (HVV.out.step HB.out)).mono ?_; rintro e wn ⟨rfl, hbn⟩
         clear x0 x1 x2 z0 z1 z2 z3
         have HB' := Lib.hid (bstep HB.out hbn)
         have HZ1' := Lib.hid (HZ1.out.step hbn)
         have HZ2' := Lib.hid (HZ2.out.step hbn)
         clear HB HZ1 HZ2 hbn
         have HB := HB'
         have HZ1 := HZ1'
         have HZ2 := HZ2'
         clear HB' HZ1' HZ2'
         obtain ⟨x0, x1, x2⟩ := HZ1.out.cells
         obtain ⟨z0, z1, z2, z3⟩ := HZ2.out.cells))
    go_ret
    exact ⟨rfl, HB.out⟩
  · go_wp2_with (first
      | (go_at_call 19; refine (a1 _ (HVV.out.step HB.out)).mono ?_; rintro e wn ⟨rfl, hbn⟩
         clear x0 x1 x2 z0 z1 z2 z3
         have HB' := Lib.hid (bstep HB.out hbn)
         have HZ1' := Lib.hid (HZ1.out.step hbn)
         have HZ2' := Lib.hid (HZ2.out.step hbn)
         clear HB HZ1 HZ2 hbn
         have HB := HB'
         have HZ1 := HZ1'
         have HZ2 := HZ2'
         clear HB' HZ1' HZ2'
         obtain ⟨x0, x1, x2⟩ := HZ1.out.cells
         obtain ⟨z0, z1, z2, z3⟩ := HZ2.out.cells)
      | (go_at_call 20; refine (a2 _ (HVV.out.step HB.out)).mono ?_; rintro e wn ⟨rfl, hbn⟩
         clear x0 x1 x2 z0 z1 z2 z3
         have HB' := Lib.hid (bstep HB.out hbn)
         have HZ1' := Lib.hid (HZ1.out.step hbn)
         have HZ2' := Lib.hid (HZ2.out.step hbn)
         clear HB HZ1 HZ2 hbn
         have HB := HB'
         have HZ1 := HZ1'
         have HZ2 := HZ2'
         clear HB' HZ1' HZ2'
         obtain ⟨x0, x1, x2⟩ := HZ1.out.cells
         obtain ⟨z0, z1, z2, z3⟩ := HZ2.out.cells)
      | (go_at_call 21; refine (a3 _ (HVV.out.step HB.out)).mono ?_; rintro e wn ⟨rfl, hbn⟩
         clear x0 x1 x2 z0 z1 z2 z3
         have HB' := Lib.hid (bstep HB.out hbn)
         have HZ1' := Lib.hid (HZ1.out.step hbn)
         have HZ2' := Lib.hid (HZ2.out.step hbn)
         clear HB HZ1 HZ2 hbn
         have HB := HB'
         have HZ1 := HZ1'
         have HZ2 := HZ2'
         clear HB' HZ1' HZ2'
         obtain ⟨x0, x1, x2⟩ := HZ1.out.cells
         obtain ⟨z0, z1, z2, z3⟩ := HZ2.out.cells)
      | (go_at_call 22; refine (a4 _ (HVV.out.step HB.out)).mono ?_; rintro e wn ⟨rfl, hbn⟩
         clear x0 x1 x2 z0 z1 z2 z3
         have HB' := Lib.hid (bstep HB.out hbn)
         have HZ1' := Lib.hid (HZ1.out.step hbn)
         have HZ2' := Lib.hid (HZ2.out.step hbn)
         clear HB HZ1 HZ2 hbn
         have HB := HB'
         have HZ1 := HZ1'
         have HZ2 := HZ2'
         clear HB' HZ1' HZ2'
         obtain ⟨x0, x1, x2⟩ := HZ1.out.cells
         obtain ⟨z0, z1, z2, z3⟩ := HZ2.out.cells)
      | (go_at_call 5; refine (j1 _ (HVV.out.step HB.out)).mono ?_; rintro e wn ⟨rfl, hbn⟩
         clear x0 x1 x2 z0 z1 z2 z3
         have HB' := Lib.hid (bstep HB.out hbn)
         have HZ1' := Lib.hid (HZ1.out.step hbn)
         have HZ2' := Lib.hid (HZ2.out.step hbn)
         clear HB HZ1 HZ2 hbn
         have HB := HB'
         have HZ1 := HZ1'
         have HZ2 := HZ2'
         clear HB' HZ1' HZ2'
         obtain ⟨x0, x1, x2⟩ := HZ1.out.cells
         obtain ⟨z0, z1, z2, z3⟩ := HZ2.out.cells)
      | (go_at_call 23; refine (a5 _).mono ?_; rintro e wn ⟨rfl, hbn⟩
         clear x0 x1 x2 z0 z1 z2 z3
         have HB' := Lib.hid (bstep HB.out hbn)
         have HZ1' := Lib.hid (HZ1.out.step hbn)
         have HZ2' := Lib.hid (HZ2.out.step hbn)
         clear HB HZ1 HZ2 hbn
         have HB := HB'
         have HZ1 := HZ1'
         have HZ2 := HZ2'
         clear HB' HZ1' HZ2'
         obtain ⟨x0, x1, x2⟩ := HZ1.out.cells
         obtain ⟨z0, z1, z2, z3⟩ := HZ2.out.cells)
      | (go_at_call 9; refine (b5 _).mono ?_; rintro e wn ⟨rfl, hbn⟩
         clear x0 x1 x2 z0 z1 z2 z3
         have HB' := Lib.hid (bstep HB.out hbn)
         have HZ1' := Lib.hid (HZ1.out.step hbn)
         have HZ2' := Lib.hid (HZ2.out.step hbn)
         clear HB HZ1 HZ2 hbn
         have HB := HB'
         have HZ1 := HZ1'
         have HZ2 := HZ2'
         clear HB' HZ1' HZ2'
         obtain ⟨x0, x1, x2⟩ := HZ1.out.cells
         obtain ⟨z0, z1, z2, z3⟩ := HZ2.out.cells)
      | (go_at_call 24; refine (b6 _).mono ?_; rintro e w' ⟨rfl, hw⟩; subst w')
      | (go_at_call 18; refine (HC.out _ (HVV.out.step HB.out)).mono ?_; rintro e wn ⟨rfl, hbn⟩
         clear x0 x1 x2 z0 z1 z2 z3
         have HB' := Lib.hid (bstep HB.out hbn)
         have HZ1' := Lib.hid (HZ1.out.step hbn)
         have HZ2' := Lib.hid (HZ2.out.step hbn)
         clear HB HZ1 HZ2 hbn
         have HB := HB'
         have HZ1 := HZ1'
         have HZ2 := HZ2'
         clear HB' HZ1' HZ2'
         obtain ⟨x0, x1, x2⟩ := HZ1.out.cells
         obtain ⟨z0, z1, z2, z3⟩ := HZ2.out.cells))
    go_ret
    exact ⟨rfl, HB.out⟩
  · go_wp2_with (first
      | (go_at_call 19; refine (a1 _ (HVV.out.step HB.out)).mono ?_; rintro e wn ⟨rfl, hbn⟩
         clear x0 x1 x2 z0 z1 z2 z3
         have HB' := Lib.hid (bstep HB.out hbn)
         have HZ1' := Lib.hid (HZ1.out.step hbn)
         have HZ2' := Lib.hid (HZ2.out.step hbn)
         clear HB HZ1 HZ2 hbn
         have HB := HB'
         have HZ1 := HZ1'
         have HZ2 := HZ2'
         clear HB' HZ1' HZ2'
         obtain ⟨x0, x1, x2⟩ := HZ1.out.cells
         obtain ⟨z0, z1, z2, z3⟩ := HZ2.out.cells)
      | (go_at_call 20; refine (a2 _ (HVV.out.step HB.out)).mono ?_; rintro e wn ⟨rfl, hbn⟩
         clear x0 x1 x2 z0 z1 z2 z3
         have HB' := Lib.hid (bstep HB.out hbn)
         have HZ1' := Lib.hid (HZ1.out.step hbn)
         have HZ2' := Lib.hid (HZ2.out.step hbn)
         clear HB HZ1 HZ2 hbn
         have HB := HB'
         have HZ1 := HZ1'
         have HZ2 := HZ2'
         clear HB' HZ1' HZ2'
         obtain ⟨x0, x1, x2⟩ := HZ1.out.cells
         obtain ⟨z0, z1, z2, z3⟩ := HZ2.out.cells)
      | (go_at_call 21; refine (a3 _ (HVV.out.step HB.out)).mono ?_; rintro e wn ⟨rfl, hbn⟩
         clear x0 x1 x2 z0 z1 z2 z3
         have HB' := Lib.hid (bstep HB.out hbn)
         have HZ1' := Lib.hid (HZ1.out.step hbn)
         have HZ2' := Lib.hid (HZ2.out.step hbn)
         clear HB HZ1 HZ2 hbn
         have HB := HB'
         have HZ1 := HZ1'
         have HZ2 := HZ2'
         clear HB' HZ1' HZ2'
         obtain ⟨x0, x1, x2⟩ := HZ1.out.cells
         obtain ⟨z0, z1, z2, z3⟩ := HZ2.out.cells)
      | (go_at_call 22; refine (a4 _ (HVV.out.step HB.out)).mono ?_; rintro e wn ⟨rfl, hbn⟩
         clear x0 x1 x2 z0 z1 z2 z3
         have HB' := Lib.hid (bstep HB.out hbn)
         have HZ1' := Lib.hid (HZ1.out.step hbn)
         have HZ2' := Lib.hid (HZ2.out.step hbn)
         clear HB HZ1 HZ2 hbn
         have HB := HB'
         have HZ1 := HZ1'
         have HZ2 := HZ2'
         clear HB' HZ1' HZ2'
         obtain ⟨x0, x1, x2⟩ := HZ1.out.cells
         obtain ⟨z0, z1, z2, z3⟩ := HZ2.out.cells)
      | (go_at_call 5; refine (j1 _ (HVV.out.step HB.out)).mono ?_; rintro e wn ⟨rfl, hbn⟩
         clear x0 x1 x2 z0 z1 z2 z3
         have HB' := Lib.hid (bstep HB.out hbn)
         have HZ1' := Lib.hid (HZ1.out.step hbn)
         have HZ2' := Lib.hid (HZ2.out.step hbn)
         clear HB HZ1 HZ2 hbn
         have HB := HB'
         have HZ1 := HZ1'
         have HZ2 := HZ2'
         clear HB' HZ1' HZ2'
         obtain ⟨x0, x1, x2⟩ := HZ1.out.cells
         obtain ⟨z0, z1, z2, z3⟩ := HZ2.out.cells)
      | (go_at_call 15; refine (j4 _ (HVV.out.step HB.out)).mono ?_; rintro e wn ⟨rfl, hbn⟩
         clear x0 x1 x2 z0 z1 z2 z3
         have HB' := Lib.hid (bstep HB.out (bstep hbn ((Below.refl _ wn).alloc (Nat.le_refl _) (.cells #[.int .i64 p.secs, .bool p.utc, .bool p.date, .int .i64 m] 43))))
         have HZ1' := Lib.hid (HZ1.out.step (bstep hbn ((Below.refl _ wn).alloc (Nat.le_refl _) (.cells #[.int .i64 p.secs, .bool p.utc, .bool p.date, .int .i64 m] 43))))
         have HZ2' := Lib.hid (HZ2.out.step (bstep hbn ((Below.refl _ wn).alloc (Nat.le_refl _) (.cells #[.int .i64 p.secs, .bool p.utc, .bool p.date, .int .i64 m] 43))))
         obtain ⟨v0, v1, v2, v3⟩ := (P4.new wn p m).cells
         clear HB HZ1 HZ2 hbn
         have HB := HB'
         have HZ1 := HZ1'
         have HZ2 := HZ2'
         clear HB' HZ1' HZ2'
         obtain ⟨x0, x1, x2⟩ := HZ1.out.cells
         obtain ⟨z0, z1, z2, z3⟩ := HZ2.out.cells)
      | (go_at_call 23; refine (a5 _).mono ?_; rintro e wn ⟨rfl, hbn⟩
         clear x0 x1 x2 z0 z1 z2 z3
         have HB' := Lib.hid (bstep HB.out hbn)
         have HZ1' := Lib.hid (HZ1.out.step hbn)
         have HZ2' := Lib.hid (HZ2.out.step hbn)
         clear HB HZ1 HZ2 hbn
         have HB := HB'
         have HZ1 := HZ1'
         have HZ2 := HZ2'
         clear HB' HZ1' HZ2'
         obtain ⟨x0, x1, x2⟩ := HZ1.out.cells
         obtain ⟨z0, z1, z2, z3⟩ := HZ2.out.cells)
      | (go_at_call 9; refine (b5 _).mono ?_; rintro e wn ⟨rfl, hbn⟩
         clear x0 x1 x2 z0 z1 z2 z3
         have HB' := Lib.hid (bstep HB.out hbn)
         have HZ1' := Lib.hid (HZ1.out.step hbn)
         have HZ2' := Lib.hid (HZ2.out.step hbn)
         clear HB HZ1 HZ2 hbn
         have HB := HB'
         have HZ1 := HZ1'
         have HZ2 := HZ2'
         clear HB' HZ1' HZ2'
         obtain ⟨x0, x1, x2⟩ := HZ1.out.cells
         obtain ⟨z0, z1, z2, z3⟩ := HZ2.out.cells)
      | (go_at_call 24; refine (b6 _).mono ?_; rintro e w' ⟨rfl, hw⟩; subst w')
      | (go_at_call 18; refine (HC.out _ (HVV.out.step HB.out)).mono ?_; rintro e wn ⟨rfl, hbn⟩
         clear x0 x1 x2 z0 z1 z2 z3
         have HB' := Lib.hid (bstep HB.out hbn)
         have HZ1' := Lib.hid (HZ1.out.step hbn)
         have HZ2' := Lib.hid (HZ2.out.step hbn)
         clear HB HZ1 HZ2 hbn
         have HB := HB'
         have HZ1 := HZ1'
         have HZ2 := HZ2'
         clear HB' HZ1' HZ2'
         obtain ⟨x0, x1, x2⟩ := HZ1.out.cells
         obtain ⟨z0, z1, z2, z3⟩ := HZ2.out.cells))
    go_ret
    exact ⟨rfl, HB.out⟩
  · go_wp2_with (first
      | (go_at_call 19; refine (a1 _ (HVV.out.step HB.out)).mono ?_; rintro e wn ⟨rfl, hbn⟩
         clear x0 x1 x2 z0 z1 z2 z3
         have HB' := Lib.hid (bstep HB.out hbn)
         have HZ1' := Lib.hid (HZ1.out.step hbn)
         have HZ2' := Lib.hid (HZ2.out.step hbn)
         clear HB HZ1 HZ2 hbn
         have HB := HB'
         have HZ1 := HZ1'
         have HZ2 := HZ2'
         clear HB' HZ1' HZ2'
         obtain ⟨x0, x1, x2⟩ := HZ1.out.cells
         obtain ⟨z0, z1, z2, z3⟩ := HZ2.out.cells)
      | (go_at_call 20; refine (a2 _ (HVV.out.step HB.out)).mono ?_; rintro e wn ⟨rfl, hbn⟩
         clear x0 x1 x2 z0 z1 z2 z3
         have HB' := Lib.hid (bstep HB.out hbn)
         have HZ1' := Lib.hid (HZ1.out.step hbn)
         have HZ2' := Lib.hid (HZ2.out.step hbn)
         clear HB HZ1 HZ2 hbn
         have HB := HB'
         have HZ1 := HZ1'
         have HZ2 := HZ2'
         clear HB' HZ1' HZ2'
         obtain ⟨x0, x1, x2⟩ := HZ1.out.cells
         obtain ⟨z0, z1, z2, z3⟩ := HZ2.out.cells)
      | (go_at_call 21; refine (a3 _ (HVV.out.step HB.out)).mono ?_; rintro e wn ⟨rfl, hbn⟩
         clear x0 x1 x2 z0 z1 z2 z3
         have HB' := Lib.hid (bstep HB.out hbn)
         have HZ1' := Lib.hid (HZ1.out.step hbn)
         have HZ2' := Lib.hid (HZ2.out.step hbn)
         clear HB HZ1 HZ2 hbn
         have HB := HB'
         have HZ1 := HZ1'
         have HZ2 := HZ2'
         clear HB' HZ1' HZ2'
         obtain ⟨x0, x1, x2⟩ := HZ1.out.cells
         obtain ⟨z0, z1, z2, z3⟩ := HZ2.out.cells)
      | (go_at_call 22; refine (a4 _ (HVV.out.step HB.out)).mono ?_; rintro e wn ⟨rfl, hbn⟩
         clear x0 x1 x2 z0 z1 z2 z3
         have HB' := Lib.hid (bstep HB.out hbn)
         have HZ1' := Lib.hid (HZ1.out.step hbn)
         have HZ2' := Lib.hid (HZ2.out.step hbn)
         clear HB HZ1 HZ2 hbn
         have HB := HB'
         have HZ1 := HZ1'
         have HZ2 := HZ2'
         clear HB' HZ1' HZ2'
         obtain ⟨x0, x1, x2⟩ := HZ1.out.cells
         obtain ⟨z0, z1, z2, z3⟩ := HZ2.out.cells)
      | (go_at_call 5; refine (j1 _ (HVV.out.step HB.out)).mono ?_; rintro e wn ⟨rfl, hbn⟩
         clear x0 x1 x2 z0 z1 z2 z3
         have HB' := Lib.hid (bstep HB.out hbn)
         have HZ1' := Lib.hid (HZ1.out.step hbn)
         have HZ2' := Lib.hid (HZ2.out.step hbn)
         clear HB HZ1 HZ2 hbn
         have HB := HB'
         have HZ1 := HZ1'
         have HZ2 := HZ2'
         clear HB' HZ1' HZ2'
         obtain ⟨x0, x1, x2⟩ := HZ1.out.cells
         obtain ⟨z0, z1, z2, z3⟩ := HZ2.out.cells)
      | (go_at_call 11; refine (j3 _ (HVV.out.step HB.out)).mono ?_; rintro e wn ⟨rfl, hbn⟩
         clear x0 x1 x2 z0 z1 z2 z3
         have HB' := Lib.hid (bstep HB.out (bstep hbn ((Below.refl _ wn).alloc (Nat.le_refl _) (.cells #[.int .i64 t.secs, .bool t.utc, .bool t.date] 32))))
         have HZ1' := Lib.hid (HZ1.out.step (bstep hbn ((Below.refl _ wn).alloc (Nat.le_refl _) (.cells #[.int .i64 t.secs, .bool t.utc, .bool t.date] 32))))
         have HZ2' := Lib.hid (HZ2.out.step (bstep hbn ((Below.refl _ wn).alloc (Nat.le_refl _) (.cells #[.int .i64 t.secs, .bool t.utc, .bool t.date] 32))))
         obtain ⟨u0, u1, u2⟩ := (H3.new wn t).cells
         clear HB HZ1 HZ2 hbn
         have HB := HB'
         have HZ1 := HZ1'
         have HZ2 := HZ2'
         clear HB' HZ1' HZ2'
         obtain ⟨x0, x1, x2⟩ := HZ1.out.cells
         obtain ⟨z0, z1, z2, z3⟩ := HZ2.out.cells)
      | (go_at_call 23; refine (a5 _).mono ?_; rintro e wn ⟨rfl, hbn⟩
         clear x0 x1 x2 z0 z1 z2 z3
         have HB' := Lib.hid (bstep HB.out hbn)
         have HZ1' := Lib.hid (HZ1.out.step hbn)
         have HZ2' := Lib.hid (HZ2.out.step hbn)
         clear HB HZ1 HZ2 hbn
         have HB := HB'
         have HZ1 := HZ1'
         have HZ2 := HZ2'
         clear HB' HZ1' HZ2'
         obtain ⟨x0, x1, x2⟩ := HZ1.out.cells
         obtain ⟨z0, z1, z2, z3⟩ := HZ2.out.cells)
      | (go_at_call 9; refine (b5 _).mono ?_; rintro e wn ⟨rfl, hbn⟩
         clear x0 x1 x2 z0 z1 z2 z3
         have HB' := Lib.hid (bstep HB.out hbn)
         have HZ1' := Lib.hid (HZ1.out.step hbn)
         have HZ2' := Lib.hid (HZ2.out.step hbn)
         clear HB HZ1 HZ2 hbn
         have HB := HB'
         have HZ1 := HZ1'
         have HZ2 := HZ2'
         clear HB' HZ1' HZ2'
         obtain ⟨x0, x1, x2⟩ := HZ1.out.cells
         obtain ⟨z0, z1, z2, z3⟩ := HZ2.out.cells)
      | (go_at_call 24; refine (b6 _).mono ?_; rintro e w' ⟨rfl, hw⟩; subst w')
      | (go_at_call 18; refine (HC.out _ (HVV.out.step HB.out)).mono ?_; rintro e wn ⟨rfl, hbn⟩
         clear x0 x1 x2 z0 z1 z2 z3
         have HB' := Lib.hid (bstep HB.out hbn)
         have HZ1' := Lib.hid (HZ1.out.step hbn)
         have HZ2' := Lib.hid (HZ2.out.step hbn)
         clear HB HZ1 HZ2 hbn
         have HB := HB'
         have HZ1 := HZ1'
         have HZ2 := HZ2'
         clear HB' HZ1' HZ2'
         obtain ⟨x0, x1, x2⟩ := HZ1.out.cells
         obtain ⟨z0, z1, z2, z3⟩ := HZ2.out.cells))
    go_ret
    exact ⟨rfl, HB.out⟩
  · go_wp2_with (first
      | (go_at_call 19; refine (a1 _ (HVV.out.step HB.out)).mono ?_; rintro e wn ⟨rfl, hbn⟩
         clear x0 x1 x2 z0 z1 z2 z3
         have HB' := Lib.hid (bstep HB.out hbn)
         have HZ1' := Lib.hid (HZ1.out.step hbn)
         have HZ2' := Lib.hid (HZ2.out.step hbn)
         clear HB HZ1 HZ2 hbn
         have HB := HB'
         have HZ1 := HZ1'
         have HZ2 := HZ2'
         clear HB' HZ1' HZ2'
         obtain ⟨x0, x1, x2⟩ := HZ1.out.cells
         obtain ⟨z0, z1, z2, z3⟩ := HZ2.out.cells)
      | (go_at_call 20; refine (a2 _ (HVV.out.step HB.out)).mono ?_; rintro e wn ⟨rfl, hbn⟩
         clear x0 x1 x2 z0 z1 z2 z3
         have HB' := Lib.hid (bstep HB.out hbn)
         have HZ1' := Lib.hid (HZ1.out.step hbn)
         have HZ2' := Lib.hid (HZ2.out.step hbn)
         clear HB HZ1 HZ2 hbn
         have HB := HB'
         have HZ1 := HZ1'
         have HZ2 := HZ2'
         clear HB' HZ1' HZ2'
         obtain ⟨x0, x1, x2⟩ := HZ1.out.cells
         obtain ⟨z0, z1, z2, z3⟩ := HZ2.out.cells)
      | (go_at_call 21; refine (a3 _ (HVV.out.step HB.out)).mono ?_; rintro e wn ⟨rfl, hbn⟩
         clear x0 x1 x2 z0 z1 z2 z3
         have HB' := Lib.hid (bstep HB.out hbn)
         have HZ1' := Lib.hid (HZ1.out.step hbn)
         have HZ2' := Lib.hid (HZ2.out.step hbn)
         clear HB HZ1 HZ2 hbn
         have HB := HB'
         have HZ1 := HZ1'
         have HZ2 := HZ2'
         clear HB' HZ1' HZ2'
         obtain ⟨x0, x1, x2⟩ := HZ1.out.cells
         obtain ⟨z0, z1, z2, z3⟩ := HZ2.out.cells)
      | (go_at_call 22; refine (a4 _ (HVV.out.step HB.out)).mono ?_; rintro e wn ⟨rfl, hbn⟩
         clear x0 x1 x2 z0 z1 z2 z3
         have HB' := Lib.hid (bstep HB.out hbn)
         have HZ1' := Lib.hid (HZ1.out.step hbn)
         have HZ2' := Lib.hid (HZ2.out.step hbn)
         clear HB HZ1 HZ2 hbn
         have HB := HB'
         have HZ1 := HZ1'
         have HZ2 := HZ2'
         clear HB' HZ1' HZ2'
         obtain ⟨x0, x1, x2⟩ := HZ1.out.cells
         obtain ⟨z0, z1, z2, z3⟩ := HZ2.out.cells)
      | (go_at_call 5; refine (j1 _ (HVV.out.step HB.out)).mono ?_; rintro e wn ⟨rfl, hbn⟩
         clear x0 x1 x2 z0 z1 z2 z3
         have HB' := Lib.hid (bstep HB.out hbn)
         have HZ1' := Lib.hid (HZ1.out.step hbn)
         have HZ2' := Lib.hid (HZ2.out.step hbn)
         clear HB HZ1 HZ2 hbn
         have HB := HB'
         have HZ1 := HZ1'
         have HZ2 := HZ2'
         clear HB' HZ1' HZ2'
         obtain ⟨x0, x1, x2⟩ := HZ1.out.cells
         obtain ⟨z0, z1, z2, z3⟩ := HZ2.out.cells)
      | (go_at_call 11; refine (j3 _ (HVV.out.step HB.out)).mono ?_; rintro e wn ⟨rfl, hbn⟩
         clear x0 x1 x2 z0 z1 z2 z3
         have HB' := Lib.hid (bstep HB.out (bstep hbn ((Below.refl _ wn).alloc (Nat.le_refl _) (.cells #[.int .i64 t.secs, .bool t.utc, .bool t.date] 32))))
         have HZ1' := Lib.hid (HZ1.out.step (bstep hbn ((Below.refl _ wn).alloc (Nat.le_refl _) (.cells #[.int .i64 t.secs, .bool t.utc, .bool t.date] 32))))
         have HZ2' := Lib.hid (HZ2.out.step (bstep hbn ((Below.refl _ wn).alloc (Nat.le_refl _) (.cells #[.int .i64 t.secs, .bool t.utc, .bool t.date] 32))))
         obtain ⟨u0, u1, u2⟩ := (H3.new wn t).cells
         clear HB HZ1 HZ2 hbn
         have HB := HB'
         have HZ1 := HZ1'
         have HZ2 := HZ2'
         clear HB' HZ1' HZ2'
         obtain ⟨x0, x1, x2⟩ := HZ1.out.cells
         obtain ⟨z0, z1, z2, z3⟩ := HZ2.out.cells)
      | (go_at_call 15; refine (j4 _ (HVV.out.step HB.out)).mono ?_; rintro e wn ⟨rfl, hbn⟩
         clear x0 x1 x2 z0 z1 z2 z3
         have HB' := Lib.hid (bstep HB.out (bstep hbn ((Below.refl _ wn).alloc (Nat.le_refl _) (.cells #[.int .i64 p.secs, .bool p.utc, .bool p.date, .int .i64 m] 43))))
         have HZ1' := Lib.hid (HZ1.out.step (bstep hbn ((Below.refl _ wn).alloc (Nat.le_refl _) (.cells #[.int .i64 p.secs, .bool p.utc, .bool p.date, .int .i64 m] 43))))
         have HZ2' := Lib.hid (HZ2.out.step (bstep hbn ((Below.refl _ wn).alloc (Nat.le_refl _) (.cells #[.int .i64 p.secs, .bool p.utc, .bool p.date, .int .i64 m] 43))))
         obtain ⟨v0, v1, v2, v3⟩ := (P4.new wn p m).cells
         clear HB HZ1 HZ2 hbn
         have HB := HB'
         have HZ1 := HZ1'
         have HZ2 := HZ2'
         clear HB' HZ1' HZ2'
         obtain ⟨x0, x1, x2⟩ := HZ1.out.cells
         obtain ⟨z0, z1, z2, z3⟩ := HZ2.out.cells)
      | (go_at_call 23; refine (a5 _).mono ?_; rintro e wn ⟨rfl, hbn⟩
         clear x0 x1 x2 z0 z1 z2 z3
         have HB' := Lib.hid (bstep HB.out hbn)
         have HZ1' := Lib.hid (HZ1.out.step hbn)
         have HZ2' := Lib.hid (HZ2.out.step hbn)
         clear HB HZ1 HZ2 hbn
         have HB := HB'
         have HZ1 := HZ1'
         have HZ2 := HZ2'
         clear HB' HZ1' HZ2'
         obtain ⟨x0, x1, x2⟩ := HZ1.out.cells
         obtain ⟨z0, z1, z2, z3⟩ := HZ2.out.cells)
      | (go_at_call 9; refine (b5 _).mono ?_; rintro e wn ⟨rfl, hbn⟩
         clear x0 x1 x2 z0 z1 z2 z3
         have HB' := Lib.hid (bstep HB.out hbn)
         have HZ1' := Lib.hid (HZ1.out.step hbn)
         have HZ2' := Lib.hid (HZ2.out.step hbn)
         clear HB HZ1 HZ2 hbn
         have HB := HB'
         have HZ1 := HZ1'
         have HZ2 := HZ2'
         clear HB' HZ1' HZ2'
         obtain ⟨x0, x1, x2⟩ := HZ1.out.cells
         obtain ⟨z0, z1, z2, z3⟩ := HZ2.out.cells)
      | (go_at_call 24; refine (b6 _).mono ?_; rintro e w' ⟨rfl, hw⟩; subst w')
      | (go_at_call 18; refine (HC.out _ (HVV.out.step HB.out)).mono ?_; rintro e wn ⟨rfl, hbn⟩
         clear x0 x1 x2 z0 z1 z2 z3
         have HB' := Lib.hid (bstep HB.out hbn)
         have HZ1' := Lib.hid (HZ1.out.step hbn)
         have HZ2' := Lib.hid (HZ2.out.step hbn)
         clear HB HZ1 HZ2 hbn
         have HB := HB'
         have HZ1 := HZ1'
         have HZ2 := HZ2'
         clear HB' HZ1' HZ2'
         obtain ⟨x0, x1, x2⟩ := HZ1.out.cells
         obtain ⟨z0, z1, z2, z3⟩ := HZ2.out.cells))
    go_ret
    exact ⟨rfl, HB.out⟩
  · go_wp2_with (first
      | (go_at_call 19; refine (a1 _ (HVV.out.step HB.out)).mono ?_; rintro e wn ⟨rfl, hbn⟩
         clear x0 x1 x2 z0 z1 z2 z3
         have HB' := Lib.hid (bstep HB.out hbn)
         have HZ1' := Lib.hid (HZ1.out.step hbn)
         have HZ2' := Lib.hid (HZ2.out.step hbn)
         clear HB HZ1 HZ2 hbn
         have HB := HB'
         have HZ1 := HZ1'
         have HZ2 := HZ2'
         clear HB' HZ1' HZ2'
         obtain ⟨x0, x1, x2⟩ := HZ1.out.cells
         obtain ⟨z0, z1, z2, z3⟩ := HZ2.out.cells)
      | (go_at_call 20; refine (a2 _ (HVV.out.step HB.out)).mono ?_; rintro e wn ⟨rfl, hbn⟩
         clear x0 x1 x2 z0 z1 z2 z3
         have HB' := Lib.hid (bstep HB.out hbn)
         have HZ1' := Lib.hid (HZ1.out.step hbn)
         have HZ2' := Lib.hid (HZ2.out.step hbn)
         clear HB HZ1 HZ2 hbn
         have HB := HB'
         have HZ1 := HZ1'
         have HZ2 := HZ2'
         clear HB' HZ1' HZ2'
         obtain ⟨x0, x1, x2⟩ := HZ1.out.cells
         obtain ⟨z0, z1, z2, z3⟩ := HZ2.out.cells)
      | (go_at_call 21; refine (a3 _ (HVV.out.step HB.out)).mono ?_; rintro e wn ⟨rfl, hbn⟩
         clear x0 x1 x2 z0 z1 z2 z3
         have HB' := Lib.hid (bstep HB.out hbn)
         have HZ1' := Lib.hid (HZ1.out.step hbn)
         have HZ2' := Lib.hid (HZ2.out.step hbn)
         clear HB HZ1 HZ2 hbn
         have HB := HB'
         have HZ1 := HZ1'
         have HZ2 := HZ2'
         clear HB' HZ1' HZ2'
         obtain ⟨x0, x1, x2⟩ := HZ1.out.cells
         obtain ⟨z0, z1, z2, z3⟩ := HZ2.out.cells)
      | (go_at_call 22; refine (a4 _ (HVV.out.step HB.out)).mono ?_; rintro e wn ⟨rfl, hbn⟩
         clear x0 x1 x2 z0 z1 z2 z3
         have HB' := Lib.hid (bstep HB.out hbn)
         have HZ1' := Lib.hid (HZ1.out.step hbn)
         have HZ2' := Lib.hid (HZ2.out.step hbn)
         clear HB HZ1 HZ2 hbn
         have HB := HB'
         have HZ1 := HZ1'
         have HZ2 := HZ2'
         clear HB' HZ1' HZ2'
         obtain ⟨x0, x1, x2⟩ := HZ1.out.cells
         obtain ⟨z0, z1, z2, z3⟩ := HZ2.out.cells)
      | (go_at_call 5; refine (j1 _ (HVV.out.step HB.out)).mono ?_; rintro e wn ⟨rfl, hbn⟩
         clear x0 x1 x2 z0 z1 z2 z3
         have HB' := Lib.hid (bstep HB.out hbn)
         have HZ1' := Lib.hid (HZ1.out.step hbn)
         have HZ2' := Lib.hid (HZ2.out.step hbn)
         clear HB HZ1 HZ2 hbn
         have HB := HB'
         have HZ1 := HZ1'
         have HZ2 := HZ2'
         clear HB' HZ1' HZ2'
         obtain ⟨x0, x1, x2⟩ := HZ1.out.cells
         obtain ⟨z0, z1, z2, z3⟩ := HZ2.out.cells)
      | (go_at_call 7; refine (j2 _ (HVV.out.step HB.out)).mono ?_; rintro e wn ⟨rfl, hbn⟩
         clear x0 x1 x2 z0 z1 z2 z3
         have HB' := Lib.hid (bstep HB.out hbn)
         have HZ1' := Lib.hid (HZ1.out.step hbn)
         have HZ2' := Lib.hid (HZ2.out.step hbn)
         clear HB HZ1 HZ2 hbn
         have HB := HB'
         have HZ1 := HZ1'
         have HZ2 := HZ2'
         clear HB' HZ1' HZ2'
         obtain ⟨x0, x1, x2⟩ := HZ1.out.cells
         obtain ⟨z0, z1, z2, z3⟩ := HZ2.out.cells)
      | (go_at_call 23; refine (a5 _).mono ?_; rintro e wn ⟨rfl, hbn⟩
         clear x0 x1 x2 z0 z1 z2 z3
         have HB' := Lib.hid (bstep HB.out hbn)
         have HZ1' := Lib.hid (HZ1.out.step hbn)
         have HZ2' := Lib.hid (HZ2.out.step hbn)
         clear HB HZ1 HZ2 hbn
         have HB := HB'
         have HZ1 := HZ1'
         have HZ2 := HZ2'
         clear HB' HZ1' HZ2'
         obtain ⟨x0, x1, x2⟩ := HZ1.out.cells
         obtain ⟨z0, z1, z2, z3⟩ := HZ2.out.cells)
      | (go_at_call 9; refine (b5 _).mono ?_; rintro e wn ⟨rfl, hbn⟩
         clear x0 x1 x2 z0 z1 z2 z3
         have HB' := Lib.hid (bstep HB.out hbn)
         have HZ1' := Lib.hid (HZ1.out.step hbn)
         have HZ2' := Lib.hid (HZ2.out.step hbn)
         clear HB HZ1 HZ2 hbn
         have HB := HB'
         have HZ1 := HZ1'
         have HZ2 := HZ2'
         clear HB' HZ1' HZ2'
         obtain ⟨x0, x1, x2⟩ := HZ1.out.cells
         obtain ⟨z0, z1, z2, z3⟩ := HZ2.out.cells)
      | (go_at_call 24; refine (b6 _).mono ?_; rintro e w' ⟨rfl, hw⟩; subst w')
      | (go_at_call 18; refine (HC.out _ (HVV.out.step HB.out)).mono ?_; rintro e wn ⟨rfl, hbn⟩
         clear x0 x1 x2 z0 z1 z2 z3
         have HB' := Lib.hid (bstep HB.out hbn)
         have HZ1' := Lib.hid (HZ1.out.step hbn)
         have HZ2' := Lib.hid (HZ2.out.step hbn)
         clear HB HZ1 HZ2 hbn
         have HB := HB'
         have HZ1 := HZ1'
         have HZ2 := HZ2'
         clear HB' HZ1' HZ2'
         obtain ⟨x0, x1, x2⟩ := HZ1.out.cells
         obtain ⟨z0, z1, z2, z3⟩ := HZ2.out.cells))
    go_ret
    exact ⟨rfl, HB.out⟩
  · go_wp2_with (first
      | (go_at_call 19; refine (a1 _ (HVV.out.step HB.out)).mono ?_; rintro e wn ⟨rfl, hbn⟩
         clear x0 x1 x2 z0 z1 z2 z3
         have HB' := Lib.hid (bstep HB.out hbn)
         have HZ1' := Lib.hid (HZ1.out.step hbn)
         have HZ2' := Lib.hid (HZ2.out.step hbn)
         clear HB HZ1 HZ2 hbn
         have HB := HB'
         have HZ1 := HZ1'
         have HZ2 := HZ2'
         clear HB' HZ1' HZ2'
         obtain ⟨x0, x1, x2⟩ := HZ1.out.cells
         obtain ⟨z0, z1, z2, z3⟩ := HZ2.out.cells)
      | (go_at_call 20; refine (a2 _ (HVV.out.step HB.out)).mono ?_; rintro e wn ⟨rfl, hbn⟩
         clear x0 x1 x2 z0 z1 z2 z3
         have HB' := Lib.hid (bstep HB.out hbn)
         have HZ1' := Lib.hid (HZ1.out.step hbn)
         have HZ2' := Lib.hid (HZ2.out.step hbn)
         clear HB HZ1 HZ2 hbn
         have HB := HB'
         have HZ1 := HZ1'
         have HZ2 := HZ2'
         clear HB' HZ1' HZ2'
         obtain ⟨x0, x1, x2⟩ := HZ1.out.cells
         obtain ⟨z0, z1, z2, z3⟩ := HZ2.out.cells)
      | (go_at_call 21; refine (a3 _ (HVV.out.step HB.out)).mono ?_; rintro e wn ⟨rfl, hbn⟩
         clear x0 x1 x2 z0 z1 z2 z3
         have HB' := Lib.hid (bstep HB.out hbn)
         have HZ1' := Lib.hid (HZ1.out.step hbn)
         have HZ2' := Lib.hid (HZ2.out.step hbn)
         clear HB HZ1 HZ2 hbn
         have HB := HB'
         have HZ1 := HZ1'
         have HZ2 := HZ2'
         clear HB' HZ1' HZ2'
         obtain ⟨x0, x1, x2⟩ := HZ1.out.cells
         obtain ⟨z0, z1, z2, z3⟩ := HZ2.out.cells)
      | (go_at_call 22; refine (a4 _ (HVV.out.step HB.out)).mono ?_; rintro e wn ⟨rfl, hbn⟩
         clear x0 x1 x2 z0 z1 z2 z3
         have HB' := Lib.hid (bstep HB.out hbn)
         have HZ1' := Lib.hid (HZ1.out.step hbn)
         have HZ2' := Lib.hid (HZ2.out.step hbn)
         clear HB HZ1 HZ2 hbn
         have HB := HB'
         have HZ1 := HZ1'
         have HZ2 := HZ2'
         clear HB' HZ1' HZ2'
         obtain ⟨x0, x1, x2⟩ := HZ1.out.cells
         obtain ⟨z0, z1, z2, z3⟩ := HZ2.out.cells)
      | (go_at_call 5; refine (j1 _ (HVV.out.step HB.out)).mono ?_; rintro e wn ⟨rfl, hbn⟩
         clear x0 x1 x2 z0 z1 z2 z3
         have HB' := Lib.hid (bstep HB.out hbn)
         have HZ1' := Lib.hid (HZ1.out.step hbn)
         have HZ2' := Lib.hid (HZ2.out.step hbn)
         clear HB HZ1 HZ2 hbn
         have HB := HB'
         have HZ1 := HZ1'
         have HZ2 := HZ2'
         clear HB' HZ1' HZ2'
         obtain ⟨x0, x1, x2⟩ := HZ1.out.cells
         obtain ⟨z0, z1, z2, z3⟩ := HZ2.out.cells)
      | (go_at_call 7; refine (j2 _ (HVV.out.step HB.out)).mono ?_; rintro e wn ⟨rfl, hbn⟩
         clear x0 x1 x2 z0 z1 z2 z3
         have HB' := Lib.hid (bstep HB.out hbn)
         have HZ1' := Lib.hid (HZ1.out.step hbn)
         have HZ2' := Lib.hid (HZ2.out.step hbn)
         clear HB HZ1 HZ2 hbn
         have HB := HB'
         have HZ1 := HZ1'
         have HZ2 := HZ2'
         clear HB' HZ1' HZ2'
         obtain ⟨x0, x1, x2⟩ := HZ1.out.cells
         obtain ⟨z0, z1, z2, z3⟩ := HZ2.out.cells)
      | (go_at_call 15; refine (j4 _ (HVV.out.step HB.out)).mono ?_; rintro e wn ⟨rfl, hbn⟩
         clear x0 x1 x2 z0 z1 z2 z3
         have HB' := Lib.hid (bstep HB.out (bstep hbn ((Below.refl _ wn).alloc (Nat.le_refl _) (.cells #[.int .i64 p.secs, .bool p.utc, .bool p.date, .int .i64 m] 43))))
         have HZ1' := Lib.hid (HZ1.out.step (bstep hbn ((Below.refl _ wn).alloc (Nat.le_refl _) (.cells #[.int .i64 p.secs, .bool p.utc, .bool p.date, .int .i64 m] 43))))
         have HZ2' := Lib.hid (HZ2.out.step (bstep hbn ((Below.refl _ wn).alloc (Nat.le_refl _) (.cells #[.int .i64 p.secs, .bool p.utc, .bool p.date, .int .i64 m] 43))))
         obtain ⟨v0, v1, v2, v3⟩ := (P4.new wn p m).cells
         clear HB HZ1 HZ2 hbn
         have HB := HB'
         have HZ1 := HZ1'
         have HZ2 := HZ2'
         clear HB' HZ1' HZ2'
         obtain ⟨x0, x1, x2⟩ := HZ1.out.cells
         obtain ⟨z0, z1, z2, z3⟩ := HZ2.out.cells)
      | (go_at_call 23; refine (a5 _).mono ?_; rintro e wn ⟨rfl, hbn⟩
         clear x0 x1 x2 z0 z1 z2 z3
         have HB' := Lib.hid (bstep HB.out hbn)
         have HZ1' := Lib.hid (HZ1.out.step hbn)
         have HZ2' := Lib.hid (HZ2.out.step hbn)
         clear HB HZ1 HZ2 hbn
         have HB := HB'
         have HZ1 := HZ1'
         have HZ2 := HZ2'
         clear HB' HZ1' HZ2'
         obtain ⟨x0, x1, x2⟩ := HZ1.out.cells
         obtain ⟨z0, z1, z2, z3⟩ := HZ2.out.cells)
      | (go_at_call 9; refine (b5 _).mono ?_; rintro e wn ⟨rfl, hbn⟩
         clear x0 x1 x2 z0 z1 z2 z3
         have HB' := Lib.hid (bstep HB.out hbn)
         have HZ1' := Lib.hid (HZ1.out.step hbn)
         have HZ2' := Lib.hid (HZ2.out.step hbn)
         clear HB HZ1 HZ2 hbn
         have HB := HB'
         have HZ1 := HZ1'
         have HZ2 := HZ2'
         clear HB' HZ1' HZ2'
         obtain ⟨x0, x1, x2⟩ := HZ1.out.cells
         obtain ⟨z0, z1, z2, z3⟩ := HZ2.out.cells)
      | (go_at_call 24; refine (b6 _).mono ?_; rintro e w' ⟨rfl, hw⟩; subst w')
      | (go_at_call 18; refine (HC.out _ (HVV.out.step HB.out)).mono ?_; rintro e wn ⟨rfl, hbn⟩
         clear x0 x1 x2 z0 z1 z2 z3
         have HB' := Lib.hid (bstep HB.out hbn)
         have HZ1' := Lib.hid (HZ1.out.step hbn)
         have HZ2' := Lib.hid (HZ2.out.step hbn)
         clear HB HZ1 HZ2 hbn
         have HB := HB'
         have HZ1 := HZ1'
         have HZ2 := HZ2'
         clear HB' HZ1' HZ2'
         obtain ⟨x0, x1, x2⟩ := HZ1.out.cells
         obtain ⟨z0, z1, z2, z3⟩ := HZ2.out.cells))
    go_ret
    exact ⟨rfl, HB.out⟩
  · go_wp2_with (first
      | (go_at_call 19; refine (a1 _ (HVV.out.step HB.out)).mono ?_; rintro e wn ⟨rfl, hbn⟩
         clear x0 x1 x2 z0 z1 z2 z3
         have HB' := Lib.hid (bstep HB.out hbn)
         have HZ1' := Lib.hid (HZ1.out.step hbn)
         have HZ2' := Lib.hid (HZ2.out.step hbn)
         clear HB HZ1 HZ2 hbn
         have HB := HB'
         have HZ1 := HZ1'
         have HZ2 := HZ2'
         clear HB' HZ1' HZ2'
         obtain ⟨x0, x1, x2⟩ := HZ1.out.cells
         obtain ⟨z0, z1, z2, z3⟩ := HZ2.out.cells)
      | (go_at_call 20; refine (a2 _ (HVV.out.step HB.out)).mono ?_; rintro e wn ⟨rfl, hbn⟩
         clear x0 x1 x2 z0 z1 z2 z3
         have HB' := Lib.hid (bstep HB.out hbn)
         have HZ1' := Lib.hid (HZ1.out.step hbn)
         have HZ2' := Lib.hid (HZ2.out.step hbn)
         clear HB HZ1 HZ2 hbn
         have HB := HB'
         have HZ1 := HZ1'
         have HZ2 := HZ2'
         clear HB' HZ1' HZ2'
         obtain ⟨x0, x1, x2⟩ := HZ1.out.cells
         obtain ⟨z0, z1, z2, z3⟩ := HZ2.out.cells)
      | (go_at_call 21; refine (a3 _ (HVV.out.step HB.out)).mono ?_; rintro e wn ⟨rfl, hbn⟩
         clear x0 x1 x2 z0 z1 z2 z3
         have HB' := Lib.hid (bstep HB.out hbn)
         have HZ1' := Lib.hid (HZ1.out.step hbn)
         have HZ2' := Lib.hid (HZ2.out.step hbn)
         clear HB HZ1 HZ2 hbn
         have HB := HB'
         have HZ1 := HZ1'
         have HZ2 := HZ2'
         clear HB' HZ1' HZ2'
         obtain ⟨x0, x1, x2⟩ := HZ1.out.cells
         obtain ⟨z0, z1, z2, z3⟩ := HZ2.out.cells)
      | (go_at_call 22; refine (a4 _ (HVV.out.step HB.out)).mono ?_; rintro e wn ⟨rfl, hbn⟩
         clear x0 x1 x2 z0 z1 z2 z3
         have HB' := Lib.hid (bstep HB.out hbn)
         have HZ1' := Lib.hid (HZ1.out.step hbn)
         have HZ2' := Lib.hid (HZ2.out.step hbn)
         clear HB HZ1 HZ2 hbn
         have HB := HB'
         have HZ1 := HZ1'
         have HZ2 := HZ2'
         clear HB' HZ1' HZ2'
         obtain ⟨x0, x1, x2⟩ := HZ1.out.cells
         obtain ⟨z0, z1, z2, z3⟩ := HZ2.out.cells)
      | (go_at_call 5; refine (j1 _ (HVV.out.step HB.out)).mono ?_; rintro e wn ⟨rfl, hbn⟩
         clear x0 x1 x2 z0 z1 z2 z3
         have HB' := Lib.hid (bstep HB.out hbn)
         have HZ1' := Lib.hid (HZ1.out.step hbn)
         have HZ2' := Lib.hid (HZ2.out.step hbn)
         clear HB HZ1 HZ2 hbn
         have HB := HB'
         have HZ1 := HZ1'
         have HZ2 := HZ2'
         clear HB' HZ1' HZ2'
         obtain ⟨x0, x1, x2⟩ := HZ1.out.cells
         obtain ⟨z0, z1, z2, z3⟩ := HZ2.out.cells)
      | (go_at_call 7; refine (j2 _ (HVV.out.step HB.out)).mono ?_; rintro e wn ⟨rfl, hbn⟩
         clear x0 x1 x2 z0 z1 z2 z3
         have HB' := Lib.hid (bstep HB.out hbn)
         have HZ1' := Lib.hid (HZ1.out.step hbn)
         have HZ2' := Lib.hid (HZ2.out.step hbn)
         clear HB HZ1 HZ2 hbn
         have HB := HB'
         have HZ1 := HZ1'
         have HZ2 := HZ2'
         clear HB' HZ1' HZ2'
         obtain ⟨x0, x1, x2⟩ := HZ1.out.cells
         obtain ⟨z0, z1, z2, z3⟩ := HZ2.out.cells)
      | (go_at_call 11; refine (j3 _ (HVV.out.step HB.out)).mono ?_; rintro e wn ⟨rfl, hbn⟩
         clear x0 x1 x2 z0 z1 z2 z3
         have HB' := Lib.hid (bstep HB.out (bstep hbn ((Below.refl _ wn).alloc (Nat.le_refl _) (.cells #[.int .i64 t.secs, .bool t.utc, .bool t.date] 32))))
         have HZ1' := Lib.hid (HZ1.out.step (bstep hbn ((Below.refl _ wn).alloc (Nat.le_refl _) (.cells #[.int .i64 t.secs, .bool t.utc, .bool t.date] 32))))
         have HZ2' := Lib.hid (HZ2.out.step (bstep hbn ((Below.refl _ wn).alloc (Nat.le_refl _) (.cells #[.int .i64 t.secs, .bool t.utc, .bool t.date] 32))))
         obtain ⟨u0, u1, u2⟩ := (H3.new wn t).cells
         clear HB HZ1 HZ2 hbn
         have HB := HB'
         have HZ1 := HZ1'
         have HZ2 := HZ2'
         clear HB' HZ1' HZ2'
         obtain ⟨x0, x1, x2⟩ := HZ1.out.cells
         obtain ⟨z0, z1, z2, z3⟩ := HZ2.out.cells)
      | (go_at_call 23; refine (a5 _).mono ?_; rintro e wn ⟨rfl, hbn⟩
         clear x0 x1 x2 z0 z1 z2 z3
         have HB' := Lib.hid (bstep HB.out hbn)
         have HZ1' := Lib.hid (HZ1.out.step hbn)
         have HZ2' := Lib.hid (HZ2.out.step hbn)
         clear HB HZ1 HZ2 hbn
         have HB := HB'
         have HZ1 := HZ1'
         have HZ2 := HZ2'
         clear HB' HZ1' HZ2'
         obtain ⟨x0, x1, x2⟩ := HZ1.out.cells
         obtain ⟨z0, z1, z2, z3⟩ := HZ2.out.cells)
      | (go_at_call 9; refine (b5 _).mono ?_; rintro e wn ⟨rfl, hbn⟩
         clear x0 x1 x2 z0 z1 z2 z3
         have HB' := Lib.hid (bstep HB.out hbn)
         have HZ1' := Lib.hid (HZ1.out.step hbn)
         have HZ2' := Lib.hid (HZ2.out.step hbn)
         clear HB HZ1 HZ2 hbn
         have HB := HB'
         have HZ1 := HZ1'
         have HZ2 := HZ2'
         clear HB' HZ1' HZ2'
         obtain ⟨x0, x1, x2⟩ := HZ1.out.cells
         obtain ⟨z0, z1, z2, z3⟩ := HZ2.out.cells)
      | (go_at_call 24; refine (b6 _).mono ?_; rintro e w' ⟨rfl, hw⟩; subst w')
      | (go_at_call 18; refine (HC.out _ (HVV.out.step HB.out)).mono ?_; rintro e wn ⟨rfl, hbn⟩
         clear x0 x1 x2 z0 z1 z2 z3
         have HB' := Lib.hid (bstep HB.out hbn)
         have HZ1' := Lib.hid (HZ1.out.step hbn)
         have HZ2' := Lib.hid (HZ2.out.step hbn)
         clear HB HZ1 HZ2 hbn
         have HB := HB'
         have HZ1 := HZ1'
         have HZ2 := HZ2'
         clear HB' HZ1' HZ2'
         obtain ⟨x0, x1, x2⟩ := HZ1.out.cells
         obtain ⟨z0, z1, z2, z3⟩ := HZ2.out.cells))
    go_ret
    exact ⟨rfl, HB.out⟩
  · go_wp2_with (first
      | (go_at_call 19; refine (a1 _ (HVV.out.step HB.out)).mono ?_; rintro e wn ⟨rfl, hbn⟩
         clear x0 x1 x2 z0 z1 z2 z3
         have HB' := Lib.hid (bstep HB.out hbn)
         have HZ1' := Lib.hid (HZ1.out.step hbn)
         have HZ2' := Lib.hid (HZ2.out.step hbn)
         clear HB HZ1 HZ2 hbn
         have HB := HB'
         have HZ1 := HZ1'
         have HZ2 := HZ2'
         clear HB' HZ1' HZ2'
         obtain ⟨x0, x1, x2⟩ := HZ1.out.cells
         obtain ⟨z0, z1, z2, z3⟩ := HZ2.out.cells)
      | (go_at_call 20; refine (a2 _ (HVV.out.step HB.out)).mono ?_; rintro e wn ⟨rfl, hbn⟩
         clear x0 x1 x2 z0 z1 z2 z3
         have HB' := Lib.hid (bstep HB.out hbn)
         have HZ1' := Lib.hid (HZ1.out.step hbn)
         have HZ2' := Lib.hid (HZ2.out.step hbn)
         clear HB HZ1 HZ2 hbn
         have HB := HB'
         have HZ1 := HZ1'
         have HZ2 := HZ2'
         clear HB' HZ1' HZ2'
         obtain ⟨x0, x1, x2⟩ := HZ1.out.cells
         obtain ⟨z0, z1, z2, z3⟩ := HZ2.out.cells)
      | (go_at_call 21; refine (a3 _ (HVV.out.step HB.out)).mono ?_; rintro e wn ⟨rfl, hbn⟩
         clear x0 x1 x2 z0 z1 z2 z3
         have HB' := Lib.hid (bstep HB.out hbn)
         have HZ1' := Lib.hid (HZ1.out.step hbn)
         have HZ2' := Lib.hid (HZ2.out.step hbn)
         clear HB HZ1 HZ2 hbn
         have HB := HB'
         have HZ1 := HZ1'
         have HZ2 := HZ2'
         clear HB' HZ1' HZ2'
         obtain ⟨x0, x1, x2⟩ := HZ1.out.cells
         obtain ⟨z0, z1, z2, z3⟩ := HZ2.out.cells)
      | (go_at_call 22; refine (a4 _ (HVV.out.step HB.out)).mono ?_; rintro e wn ⟨rfl, hbn⟩
         clear x0 x1 x2 z0 z1 z2 z3
         have HB' := Lib.hid (bstep HB.out hbn)
         have HZ1' := Lib.hid (HZ1.out.step hbn)
         have HZ2' := Lib.hid (HZ2.out.step hbn)
         clear HB HZ1 HZ2 hbn
         have HB := HB'
         have HZ1 := HZ1'
         have HZ2 := HZ2'
         clear HB' HZ1' HZ2'
         obtain ⟨x0, x1, x2⟩ := HZ1.out.cells
         obtain ⟨z0, z1, z2, z3⟩ := HZ2.out.cells)
      | (go_at_call 5; refine (j1 _ (HVV.out.step HB.out)).mono ?_; rintro e wn ⟨rfl, hbn⟩
         clear x0 x1 x2 z0 z1 z2 z3
         have HB' := Lib.hid (bstep HB.out hbn)
         have HZ1' := Lib.hid (HZ1.out.step hbn)
         have HZ2' := Lib.hid (HZ2.out.step hbn)
         clear HB HZ1 HZ2 hbn
         have HB := HB'
         have HZ1 := HZ1'
         have HZ2 := HZ2'
         clear HB' HZ1' HZ2'
         obtain ⟨x0, x1, x2⟩ := HZ1.out.cells
         obtain ⟨z0, z1, z2, z3⟩ := HZ2.out.cells)
      | (go_at_call 7; refine (j2 _ (HVV.out.step HB.out)).mono ?_; rintro e wn ⟨rfl, hbn⟩
         clear x0 x1 x2 z0 z1 z2 z3
         have HB' := Lib.hid (bstep HB.out hbn)
         have HZ1' := Lib.hid (HZ1.out.step hbn)
         have HZ2' := Lib.hid (HZ2.out.step hbn)
         clear HB HZ1 HZ2 hbn
         have HB := HB'
         have HZ1 := HZ1'
         have HZ2 := HZ2'
         clear HB' HZ1' HZ2'
         obtain ⟨x0, x1, x2⟩ := HZ1.out.cells
         obtain ⟨z0, z1, z2, z3⟩ := HZ2.out.cells)
      | (go_at_call 11; refine (j3 _ (HVV.out.step HB.out)).mono ?_; rintro e wn ⟨rfl, hbn⟩
         clear x0 x1 x2 z0 z1 z2 z3
         have HB' := Lib.hid (bstep HB.out (bstep hbn ((Below.refl _ wn).alloc (Nat.le_refl _) (.cells #[.int .i64 t.secs, .bool t.utc, .bool t.date] 32))))
         have HZ1' := Lib.hid (HZ1.out.step (bstep hbn ((Below.refl _ wn).alloc (Nat.le_refl _) (.cells #[.int .i64 t.secs, .bool t.utc, .bool t.date] 32))))
         have HZ2' := Lib.hid (HZ2.out.step (bstep hbn ((Below.refl _ wn).alloc (Nat.le_refl _) (.cells #[.int .i64 t.secs, .bool t.utc, .bool t.date] 32))))
         obtain ⟨u0, u1, u2⟩ := (H3.new wn t).cells
         clear HB HZ1 HZ2 hbn
         have HB := HB'
         have HZ1 := HZ1'
         have HZ2 := HZ2'
         clear HB' HZ1' HZ2'
         obtain ⟨x0, x1, x2⟩ := HZ1.out.cells
         obtain ⟨z0, z1, z2, z3⟩ := HZ2.out.cells)
      | (go_at_call 15; refine (j4 _ (HVV.out.step HB.out)).mono ?_; rintro e wn ⟨rfl, hbn⟩
         clear x0 x1 x2 z0 z1 z2 z3
         have HB' := Lib.hid (bstep HB.out (bstep hbn ((Below.refl _ wn).alloc (Nat.le_refl _) (.cells #[.int .i64 p.secs, .bool p.utc, .bool p.date, .int .i64 m] 43))))
         have HZ1' := Lib.hid (HZ1.out.step (bstep hbn ((Below.refl _ wn).alloc (Nat.le_refl _) (.cells #[.int .i64 p.secs, .bool p.utc, .bool p.date, .int .i64 m] 43))))
         have HZ2' := Lib.hid (HZ2.out.step (bstep hbn ((Below.refl _ wn).alloc (Nat.le_refl _) (.cells #[.int .i64 p.secs, .bool p.utc, .bool p.date, .int .i64 m] 43))))
         obtain ⟨v0, v1, v2, v3⟩ := (P4.new wn p m).cells
         clear HB HZ1 HZ2 hbn
         have HB := HB'
         have HZ1 := HZ1'
         have HZ2 := HZ2'
         clear HB' HZ1' HZ2'
         obtain ⟨x0, x1, x2⟩ := HZ1.out.cells
         obtain ⟨z0, z1, z2, z3⟩ := HZ2.out.cells)
      | (go_at_call 23; refine (a5 _).mono ?_; rintro e wn ⟨rfl, hbn⟩
         clear x0 x1 x2 z0 z1 z2 z3
         have HB' := Lib.hid (bstep HB.out hbn)
         have HZ1' := Lib.hid (HZ1.out.step hbn)
         have HZ2' := Lib.hid (HZ2.out.step hbn)
         clear HB HZ1 HZ2 hbn
         have HB := HB'
         have HZ1 := HZ1'
         have HZ2 := HZ2'
         clear HB' HZ1' HZ2'
         obtain ⟨x0, x1, x2⟩ := HZ1.out.cells
         obtain ⟨z0, z1, z2, z3⟩ := HZ2.out.cells)
      | (go_at_call 9; refine (b5 _).mono ?_; rintro e wn ⟨rfl, hbn⟩
         clear x0 x1 x2 z0 z1 z2 z3
         have HB' := Lib.hid (bstep HB.out hbn)
         have HZ1' := Lib.hid (HZ1.out.step hbn)
         have HZ2' := Lib.hid (HZ2.out.step hbn)
         clear HB HZ1 HZ2 hbn
         have HB := HB'
         have HZ1 := HZ1'
         have HZ2 := HZ2'
         clear HB' HZ1' HZ2'
         obtain ⟨x0, x1, x2⟩ := HZ1.out.cells
         obtain ⟨z0, z1, z2, z3⟩ := HZ2.out.cells)
      | (go_at_call 24; refine (b6 _).mono ?_; rintro e w' ⟨rfl, hw⟩; subst w')
      | (go_at_call 18; refine (HC.out _ (HVV.out.step HB.out)).mono ?_; rintro e wn ⟨rfl, hbn⟩
         clear x0 x1 x2 z0 z1 z2 z3
         have HB' := Lib.hid (bstep HB.out hbn)
         have HZ1' := Lib.hid (HZ1.out.step hbn)
         have HZ2' := Lib.hid (HZ2.out.step hbn)
         clear HB HZ1 HZ2 hbn
         have HB := HB'
         have HZ1 := HZ1'
         have HZ2 := HZ2'
         clear HB' HZ1' HZ2'
         obtain ⟨x0, x1, x2⟩ := HZ1.out.cells
         obtain ⟨z0, z1, z2, z3⟩ := HZ2.out.cells))
    go_ret
    exact ⟨rfl, HB.out⟩
end Go.Proofs.YtdilnofolnabdaaDoor
