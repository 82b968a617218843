/-
  The program's own functions of layer 14: the methods that read one value of a part.
-/
import Derived.Test.YtnidkcedomhofaaGreatDoorG21
import Derived.StillTailTactics
namespace Go.Proofs.YtnidkcedomhofaaGreatDoor
open Go.RowKit
attribute [local go_sem] Oper.semAt_some

theorem infoIn : (Tryz.prog.info? 3).map (fun i => (i.zero, i.size, i.bytes)) = some (some (.int .i64 0), 1, 8) := by kernel_rfl
theorem infoWd : (Tryz.prog.info? 57).map (fun i => (i.zero, i.size, i.bytes)) = some (some (.agg #[.int .i64 0, .int .i64 0]), 2, 16) := by kernel_rfl
theorem lst_ans {c N : Int} {b : Bool} {f : Int → RuV} (hb : b = decide (c ≠ 0)) (h : c ≠ 0 → N = c) : (if c = 0 then none else some (f c)) = (if b = true then some (f N) else none) := by
  rw [hb]; exact num_ans h
set_option maxRecDepth 100000 in
set_option maxHeartbeats 2000000 in
theorem m_interval (s : ByteArray) (hs : s.size ≤ 1048576) (K n : Nat) (r : RuV) (sn : List (List UInt8)) (W : World) (hK : K < n) (_hn : n ≤ W.heap.size) (_hl : lenR r ≤ 100000000) (_hv : VV W) (h : Rd K n r sn W) :
    Calls Tryz.prog 85 #[.pointer (some ⟨K, 0, none⟩), .string s] W (RdAns 1 K n r sn s.data.toList W) := by
  obtain ⟨v1, v2, v3, v4, v5, hB, hR⟩ := h
  have cc := count14_any s hs 1000 W
  have HC := Lib.hid (cnt_is (l := s.data.toList) (most := 1000))
  have HA : ∀ (N : Int), (cntL s.data.toList 1000 ≠ 0 → N = cntL s.data.toList 1000) → readK 1 r s.data.toList = (if decide (cntL s.data.toList 1000 ≠ 0) = true then some { r with intv := N } else none) := fun N h => num_ans (f := fun x => { r with intv := x }) h
  have HA := Lib.hid HA
  generalize (numV s.data.toList 1000).1 = N at cc HC
  generalize hok : (decide (cntL s.data.toList 1000 ≠ 0)) = ok at cc HA
  have c1 := hB.cell (j := 1) rfl
  have f1 := hB.frozen 1
  have hlt := hB.lt
  have HB := Lib.hid hB
  have HR := Lib.hid hR
  clear hB hR hok _hl
  go_enter Tryz.func85, Tryz.ntmps85
  go_wp2_with (go_at_call 117; refine cc.mono ?_; rintro e w' ⟨rfl, hw⟩; subst w'; clear cc)
  go_ret
  exact ⟨ok, { r with intv := N }, rfl, Ch.set _ _ _, KS.set HB.out _ _, ⟨v1, v2, v3, v4, v5, HB.out.set (by simp [rdA]) _, (HR.out.set hK _).re _ rfl rfl rfl rfl⟩, HA.out N HC.out⟩
set_option maxRecDepth 100000 in
set_option maxHeartbeats 2000000 in
theorem m_count (s : ByteArray) (hs : s.size ≤ 1048576) (K n : Nat) (r : RuV) (sn : List (List UInt8)) (W : World) (hK : K < n) (_hn : n ≤ W.heap.size) (_hl : lenR r ≤ 100000000) (_hv : VV W) (h : Rd K n r sn W) :
    Calls Tryz.prog 86 #[.pointer (some ⟨K, 0, none⟩), .string s] W (RdAns 2 K n r sn s.data.toList W) := by
  obtain ⟨v1, v2, v3, v4, v5, hB, hR⟩ := h
  have cc := count14_any s hs 1000 W
  have HC := Lib.hid (cnt_is (l := s.data.toList) (most := 1000))
  have HA : ∀ (N : Int), (cntL s.data.toList 1000 ≠ 0 → N = cntL s.data.toList 1000) → readK 2 r s.data.toList = (if decide (cntL s.data.toList 1000 ≠ 0) = true then some { r with cnt := N } else none) := fun N h => num_ans (f := fun x => { r with cnt := x }) h
  have HA := Lib.hid HA
  generalize (numV s.data.toList 1000).1 = N at cc HC
  generalize hok : (decide (cntL s.data.toList 1000 ≠ 0)) = ok at cc HA
  have c1 := hB.cell (j := 2) rfl
  have f1 := hB.frozen 2
  have hlt := hB.lt
  have HB := Lib.hid hB
  have HR := Lib.hid hR
  clear hB hR hok _hl
  go_enter Tryz.func86, Tryz.ntmps86
  go_wp2_with (go_at_call 117; refine cc.mono ?_; rintro e w' ⟨rfl, hw⟩; subst w'; clear cc)
  go_ret
  exact ⟨ok, { r with cnt := N }, rfl, Ch.set _ _ _, KS.set HB.out _ _, ⟨v1, v2, v3, v4, v5, HB.out.set (by simp [rdA]) _, (HR.out.set hK _).re _ rfl rfl rfl rfl⟩, HA.out N HC.out⟩
set_option maxRecDepth 100000 in
set_option maxHeartbeats 2000000 in
theorem m_freq (s : ByteArray) (_hs : s.size ≤ 1048576) (K n : Nat) (r : RuV) (sn : List (List UInt8)) (W : World) (hK : K < n) (_hn : n ≤ W.heap.size) (_hl : lenR r ≤ 100000000) (hv : VV W) (h : Rd K n r sn W) :
    Calls Tryz.prog 84 #[.pointer (some ⟨K, 0, none⟩), .string s] W (RdAns 0 K n r sn s.data.toList W) := by
  obtain ⟨v1, v2, v3, v4, v5, hB, hR⟩ := h
  have cc := freqOf_any s W hv
  have hr := freqL_range s.data.toList
  have HA : readK 0 r s.data.toList = (if freqL s.data.toList = 0 then none else some { r with freq := freqL s.data.toList }) := rfl
  have HA := Lib.hid HA
  generalize freqL s.data.toList = z at cc hr HA
  have c1 := hB.cell (j := 0) rfl
  have f1 := hB.frozen 0
  have hlt := hB.lt
  have HB := Lib.hid hB
  have HR := Lib.hid hR
  clear hB hR _hl
  have HA2 : Hid (readK 0 r s.data.toList = (if decide (0 < z) = true then some { r with freq := z } else none)) := Lib.hid (by
    rw [HA.out]
    by_cases hz : 0 < z
    · rw [if_pos (decide_eq_true hz), if_neg (by omega)]
    · rw [decide_eq_false hz, if_pos (by omega)]; rfl)
  clear HA
  go_enter Tryz.func84, Tryz.ntmps84
  go_wp2_with (go_at_call 53; refine cc.mono ?_; rintro e w' ⟨rfl, hw⟩; subst w'; clear cc)
  go_ret
  exact ⟨decide (0 < z), { r with freq := z }, rfl, Ch.set _ _ _, KS.set HB.out _ _, ⟨v1, v2, v3, v4, v5, HB.out.set (by simp [rdA]) _, (HR.out.set hK _).re _ rfl rfl rfl rfl⟩, HA2.out⟩
set_option maxRecDepth 100000 in
set_option maxHeartbeats 2000000 in
theorem m_wkst (s : ByteArray) (_hs : s.size ≤ 1048576) (K n : Nat) (r : RuV) (sn : List (List UInt8)) (W : World) (hK : K < n) (_hn : n ≤ W.heap.size) (_hl : lenR r ≤ 100000000) (hv : VV W) (h : Rd K n r sn W) :
    Calls Tryz.prog 92 #[.pointer (some ⟨K, 0, none⟩), .string s] W (RdAns 8 K n r sn s.data.toList W) := by
  obtain ⟨v1, v2, v3, v4, v5, hB, hR⟩ := h
  have cc := dayOf_any s W hv
  have hr := dayL_range s.data.toList
  have HA : readK 8 r s.data.toList = (if dayL s.data.toList < 0 then none else some { r with wk := dayL s.data.toList }) := rfl
  have HA := Lib.hid HA
  generalize dayL s.data.toList = z at cc hr HA
  have c1 := hB.cell (j := 11) rfl
  have f1 := hB.frozen 11
  have hlt := hB.lt
  have HB := Lib.hid hB
  have HR := Lib.hid hR
  clear hB hR _hl
  have HA2 : Hid (readK 8 r s.data.toList = (if decide (0 ≤ z) = true then some { r with wk := z } else none)) := Lib.hid (by
    rw [HA.out]
    by_cases hz : 0 ≤ z
    · rw [if_pos (decide_eq_true hz), if_neg (by omega)]
    · rw [decide_eq_false hz, if_pos (by omega)]; rfl)
  clear HA
  go_enter Tryz.func92, Tryz.ntmps92
  go_wp2_with (go_at_call 119; refine cc.mono ?_; rintro e w' ⟨rfl, hw⟩; subst w'; clear cc)
  go_ret
  exact ⟨decide (0 ≤ z), { r with wk := z }, rfl, Ch.set _ _ _, KS.set HB.out _ _, ⟨v1, v2, v3, v4, v5, HB.out.set (by simp [rdA]) _, (HR.out.set hK _).re _ rfl rfl rfl rfl⟩, HA2.out⟩
set_option maxRecDepth 100000 in
set_option maxHeartbeats 2000000 in
theorem m_until (s : ByteArray) (hs : s.size ≤ 1048576) (K n : Nat) (r : RuV) (sn : List (List UInt8)) (W : World) (hK : K < n) (hn : n ≤ W.heap.size) (_hl : lenR r ≤ 100000000) (hv : VV W) (h : Rd K n r sn W) :
    Calls Tryz.prog 87 #[.pointer (some ⟨K, 0, none⟩), .string s] W (RdAns 3 K n r sn s.data.toList W) := by
  obtain ⟨v1, v2, v3, v4, v5, hB, hR⟩ := h
  have cc := pTime_any s hs W hv
  have HA : readK 3 r s.data.toList = (if (timV s.data.toList).2 = 0 then some { r with unt := (timV s.data.toList).1, has := true } else none) := rfl
  have HA := Lib.hid HA
  generalize timV s.data.toList = p at cc HA
  obtain ⟨t, er⟩ := p
  unfold whV at cc
  simp only at cc HA
  have HB := Lib.hid hB
  have HR := Lib.hid hR
  clear hB hR _hl
  have fin : ∀ (W1 : World) (b : Bool), Below W.heap.size W W1 → (readK 3 r s.data.toList = (if b = true then some { r with unt := t, has := true } else none)) → RdAns 3 K n r sn s.data.toList W (.returned (.bool b)) (((((W1.alloc (.cells #[.int .i64 t.secs, .bool t.utc, .bool t.date] 23)).setCell ⟨K, 4, none⟩ (.int .i64 t.secs)).setCell ⟨K, 5, none⟩ (.bool t.utc)).setCell ⟨K, 6, none⟩ (.bool t.date)).setCell ⟨K, 3, none⟩ (.bool true)) := by
    intro W1 b hb hA
    have ha : Below W.heap.size W (W1.alloc (.cells #[.int .i64 t.secs, .bool t.utc, .bool t.date] 23)) := hb.alloc hb.size _
    refine ⟨b, { r with unt := t, has := true }, rfl, ?_, ?_, ⟨v1, v2, v3, v4, v5, (((((HB.out.step ha).set (j := 4) (by simp [rdA]) _).set (j := 5) (by simp [rdA]) _).set (j := 6) (by simp [rdA]) _).set (j := 3) (by simp [rdA]) _), ((((((HR.out.below ha).set hK _).set hK _).set hK _).set hK _).re _ rfl rfl rfl rfl)⟩, hA⟩
    · exact (Ch.of_below (by omega) hn ha).trans ((Ch.set _ _ _).trans ((Ch.set _ _ _).trans ((Ch.set _ _ _).trans (Ch.set _ _ _))))
    · have q0 := HB.out.step ha
      have q1 := q0.set (j := 4) (by simp [rdA]) (.int .i64 t.secs)
      have q2 := q1.set (j := 5) (by simp [rdA]) (.bool t.utc)
      have q3 := q2.set (j := 6) (by simp [rdA]) (.bool t.date)
      exact (KS.of_below ha).trans ((KS.set q0 _ _).trans ((KS.set q1 _ _).trans ((KS.set q2 _ _).trans (KS.set q3 _ _))))
  have FIN := Lib.hid fin
  clear fin
  by_cases hz : er = 0
  · subst hz
    have HA2 := Lib.hid (show readK 3 r s.data.toList = (if true = true then some { r with unt := t, has := true } else none) by rw [HA.out]; rfl)
    clear HA
    go_enter Tryz.func87, Tryz.ntmps87
    go_wp2_with (go_at_call 75; refine cc.mono ?_; rintro e W1 ⟨rfl, hb⟩; clear cc
                 have ha := HB.out.step (hb.alloc hb.size (.cells #[.int .i64 t.secs, .bool t.utc, .bool t.date] 23))
                 obtain ⟨y0, y1, y2⟩ := (H3.new W1 t).cells
                 have c3 := ha.cell (j := 3) rfl
                 have c4 := ha.cell (j := 4) rfl
                 have c5 := ha.cell (j := 5) rfl
                 have c6 := ha.cell (j := 6) rfl
                 have ff := ha.frozen
                 have hk1 : ¬ W1.heap.size = K := by have := HB.out.lt; have := hb.size; omega
                 have HBB := Lib.hid hb
                 clear ha hb)
    go_ret
    exact FIN.out W1 true HBB.out HA2.out
  · have hz2 : (er == 0) = false := by rw [beq_eq_false_iff_ne]; exact hz
    have HA2 := Lib.hid (show readK 3 r s.data.toList = (if false = true then some { r with unt := t, has := true } else none) by rw [HA.out, if_neg hz]; rfl)
    clear HA
    go_enter Tryz.func87, Tryz.ntmps87
    go_wp2_with (go_at_call 75; refine cc.mono ?_; rintro e W1 ⟨rfl, hb⟩; clear cc
                 have ha := HB.out.step (hb.alloc hb.size (.cells #[.int .i64 t.secs, .bool t.utc, .bool t.date] 23))
                 obtain ⟨y0, y1, y2⟩ := (H3.new W1 t).cells
                 have c3 := ha.cell (j := 3) rfl
                 have c4 := ha.cell (j := 4) rfl
                 have c5 := ha.cell (j := 5) rfl
                 have c6 := ha.cell (j := 6) rfl
                 have ff := ha.frozen
                 have hk1 : ¬ W1.heap.size = K := by have := HB.out.lt; have := hb.size; omega
                 have HBB := Lib.hid hb
                 clear ha hb)
    go_ret
    exact FIN.out W1 false HBB.out HA2.out
set_option maxRecDepth 100000 in
set_option maxHeartbeats 2000000 in
theorem m_month (s : ByteArray) (hs : s.size ≤ 1048576) (K n : Nat) (r : RuV) (sn : List (List UInt8)) (W : World) (hK : K < n) (hn : n ≤ W.heap.size) (hl : lenR r ≤ 100000000) (_hv : VV W) (h : Rd K n r sn W) :
    Calls Tryz.prog 88 #[.pointer (some ⟨K, 0, none⟩), .string s] W (RdAns 4 K n r sn s.data.toList W) := by
  obtain ⟨v1, v2, v3, v4, v5, hB, hR⟩ := h
  have hlen : r.mon.length ≤ 100000000 := by unfold lenR at hl; omega
  obtain ⟨i0, hi, hz0, hz1, hz2⟩ := info_parts infoIn
  have HA : ∀ (N : Int), (cntL s.data.toList 12 ≠ 0 → N = cntL s.data.toList 12) → readK 4 r s.data.toList = (if decide (cntL s.data.toList 12 ≠ 0) = true then some { r with mon := r.mon ++ [N] } else none) := fun N h => num_ans (f := fun x => { r with mon := r.mon ++ [x] }) h
  have HA := Lib.hid HA
  have cc : Calls Tryz.prog 117 #[.string s, .int .i64 12] W fun e w' => ∃ N : Int, e = .returned (.tuple #[.int .i64 N, .bool (decide (cntL s.data.toList 12 ≠ 0))]) ∧ (cntL s.data.toList 12 ≠ 0 → N = cntL s.data.toList 12) ∧ w' = W := (count14_any s hs 12 W).mono (fun e w' h => ⟨_, h.1, cnt_is, h.2⟩)
  generalize hok : (decide (cntL s.data.toList 12 ≠ 0)) = ok at cc HA
  have c1 := hB.cell (j := 7) rfl
  have hlt := hB.lt
  have HB := Lib.hid hB
  have HR := Lib.hid hR
  clear hB hR hok hl
  go_enter Tryz.func88, Tryz.ntmps88
  go_wp2_with (first
    | (go_at_call 117; refine cc.mono ?_; rintro e w' ⟨N, rfl, hN, hw⟩; subst w'; have HN := Lib.hid hN; clear cc hN)
    | (at_builtin
       refine wpList_append_own_at _ rfl _ _ 24 rfl n 3 i0 (.int .i64 0) 1 8 Tryz.underlying24 hi hz0 hz1 hz2 rfl (by decide) _ _ _ rfl (HR.out.o1.alloc _) ⟨_, 0, none⟩ 1 1 [.int .i64 N] rfl rfl (cells_newV _ [.int .i64 N] _) (by simp [Value.oneCell']) (by unfold maxLen; omega) (by omega) (by simp; omega) ?_
       intro v' w1 hown' hgrow _ hat
       obtain ⟨g', cap', rfl⟩ := ownsRow_succ hown'
       have hB1 := HB.out.append hK hn HR.out.o1 hgrow
       have c2 := hB1.cell (j := 7) rfl
       have f2 := hB1.frozen 7
       have HQ := Lib.hid (And.intro hB1 (And.intro (HR.out.app1 N hown' hgrow hat) (And.intro (Ch.append (K := K) (by omega) hn HR.out.o1 hgrow) (KS.append (by first | exact .inl rfl | exact .inr rfl) HR.out.o1 hgrow))))
       clear c1 hB1 hown' hgrow hat))
  go_ret
  obtain ⟨hB1, hR1, hC, hS⟩ := HQ.out
  exact ⟨ok, { r with mon := r.mon ++ [N] }, rfl, hC.trans (Ch.set _ _ _), hS.trans (KS.set hB1 _ _), ⟨.slice (some ⟨g', 0, none⟩) _ cap', v2, v3, v4, v5, hB1.set (by simp [rdA]) _, hR1.set hK _⟩, HA.out N HN.out⟩
set_option maxRecDepth 100000 in
set_option maxHeartbeats 2000000 in
theorem m_monthDay (s : ByteArray) (hs : s.size ≤ 1048576) (K n : Nat) (r : RuV) (sn : List (List UInt8)) (W : World) (hK : K < n) (hn : n ≤ W.heap.size) (hl : lenR r ≤ 100000000) (_hv : VV W) (h : Rd K n r sn W) :
    Calls Tryz.prog 89 #[.pointer (some ⟨K, 0, none⟩), .string s] W (RdAns 5 K n r sn s.data.toList W) := by
  obtain ⟨v1, v2, v3, v4, v5, hB, hR⟩ := h
  have hlen : r.md.length ≤ 100000000 := by unfold lenR at hl; omega
  obtain ⟨i0, hi, hz0, hz1, hz2⟩ := info_parts infoIn
  have HA : ∀ (N : Int), (eitL s.data.toList 31 ≠ 0 → N = eitL s.data.toList 31) → readK 5 r s.data.toList = (if decide (eitL s.data.toList 31 ≠ 0) = true then some { r with md := r.md ++ [N] } else none) := fun N h => num_ans (f := fun x => { r with md := r.md ++ [x] }) h
  have HA := Lib.hid HA
  have cc := either14_any s hs 31 (by omega) W
  generalize hok : (decide (eitL s.data.toList 31 ≠ 0)) = ok at cc HA
  have c1 := hB.cell (j := 8) rfl
  have hlt := hB.lt
  have HB := Lib.hid hB
  have HR := Lib.hid hR
  clear hB hR hok hl
  go_enter Tryz.func89, Tryz.ntmps89
  go_wp2_with (first
    | (go_at_call 118; refine cc.mono ?_; rintro e w' ⟨N, rfl, hN, hw⟩; subst w'; have HN := Lib.hid hN; clear cc hN)
    | (at_builtin
       refine wpList_append_own_at _ rfl _ _ 24 rfl n 3 i0 (.int .i64 0) 1 8 Tryz.underlying24 hi hz0 hz1 hz2 rfl (by decide) _ _ _ rfl (HR.out.o2.alloc _) ⟨_, 0, none⟩ 1 1 [.int .i64 N] rfl rfl (cells_newV _ [.int .i64 N] _) (by simp [Value.oneCell']) (by unfold maxLen; omega) (by omega) (by simp; omega) ?_
       intro v' w1 hown' hgrow _ hat
       obtain ⟨g', cap', rfl⟩ := ownsRow_succ hown'
       have hB1 := HB.out.append hK hn HR.out.o2 hgrow
       have c2 := hB1.cell (j := 8) rfl
       have f2 := hB1.frozen 8
       have HQ := Lib.hid (And.intro hB1 (And.intro (HR.out.app2 N hown' hgrow hat) (And.intro (Ch.append (K := K) (by omega) hn HR.out.o2 hgrow) (KS.append (by first | exact .inl rfl | exact .inr rfl) HR.out.o2 hgrow))))
       clear c1 hB1 hown' hgrow hat))
  go_ret
  obtain ⟨hB1, hR1, hC, hS⟩ := HQ.out
  exact ⟨ok, { r with md := r.md ++ [N] }, rfl, hC.trans (Ch.set _ _ _), hS.trans (KS.set hB1 _ _), ⟨v1, .slice (some ⟨g', 0, none⟩) _ cap', v3, v4, v5, hB1.set (by simp [rdA]) _, hR1.set hK _⟩, HA.out N HN.out⟩
set_option maxRecDepth 100000 in
set_option maxHeartbeats 2000000 in
theorem m_place (s : ByteArray) (hs : s.size ≤ 1048576) (K n : Nat) (r : RuV) (sn : List (List UInt8)) (W : World) (hK : K < n) (hn : n ≤ W.heap.size) (hl : lenR r ≤ 100000000) (_hv : VV W) (h : Rd K n r sn W) :
    Calls Tryz.prog 91 #[.pointer (some ⟨K, 0, none⟩), .string s] W (RdAns 7 K n r sn s.data.toList W) := by
  obtain ⟨v1, v2, v3, v4, v5, hB, hR⟩ := h
  have hlen : r.pos.length ≤ 100000000 := by unfold lenR at hl; omega
  obtain ⟨i0, hi, hz0, hz1, hz2⟩ := info_parts infoIn
  have HA : ∀ (N : Int), (eitL s.data.toList 366 ≠ 0 → N = eitL s.data.toList 366) → readK 7 r s.data.toList = (if decide (eitL s.data.toList 366 ≠ 0) = true then some { r with pos := r.pos ++ [N] } else none) := fun N h => num_ans (f := fun x => { r with pos := r.pos ++ [x] }) h
  have HA := Lib.hid HA
  have cc := either14_any s hs 366 (by omega) W
  generalize hok : (decide (eitL s.data.toList 366 ≠ 0)) = ok at cc HA
  have c1 := hB.cell (j := 10) rfl
  have hlt := hB.lt
  have HB := Lib.hid hB
  have HR := Lib.hid hR
  clear hB hR hok hl
  go_enter Tryz.func91, Tryz.ntmps91
  go_wp2_with (first
    | (go_at_call 118; refine cc.mono ?_; rintro e w' ⟨N, rfl, hN, hw⟩; subst w'; have HN := Lib.hid hN; clear cc hN)
    | (at_builtin
       refine wpList_append_own_at _ rfl _ _ 24 rfl n 3 i0 (.int .i64 0) 1 8 Tryz.underlying24 hi hz0 hz1 hz2 rfl (by decide) _ _ _ rfl (HR.out.o4.alloc _) ⟨_, 0, none⟩ 1 1 [.int .i64 N] rfl rfl (cells_newV _ [.int .i64 N] _) (by simp [Value.oneCell']) (by unfold maxLen; omega) (by omega) (by simp; omega) ?_
       intro v' w1 hown' hgrow _ hat
       obtain ⟨g', cap', rfl⟩ := ownsRow_succ hown'
       have hB1 := HB.out.append hK hn HR.out.o4 hgrow
       have c2 := hB1.cell (j := 10) rfl
       have f2 := hB1.frozen 10
       have HQ := Lib.hid (And.intro hB1 (And.intro (HR.out.app4 N hown' hgrow hat) (And.intro (Ch.append (K := K) (by omega) hn HR.out.o4 hgrow) (KS.append (by first | exact .inl rfl | exact .inr rfl) HR.out.o4 hgrow))))
       clear c1 hB1 hown' hgrow hat))
  go_ret
  obtain ⟨hB1, hR1, hC, hS⟩ := HQ.out
  exact ⟨ok, { r with pos := r.pos ++ [N] }, rfl, hC.trans (Ch.set _ _ _), hS.trans (KS.set hB1 _ _), ⟨v1, v2, v3, .slice (some ⟨g', 0, none⟩) _ cap', v5, hB1.set (by simp [rdA]) _, hR1.set hK _⟩, HA.out N HN.out⟩
end Go.Proofs.YtnidkcedomhofaaGreatDoor
