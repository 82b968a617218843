/-
  The program's own functions of layer 14: a number, a day's name, how often.
-/
import Derived.Test.YtnidkcedomhofaaGreatDoorG19
import Derived.Test.YtnidkcedomhofaaGreatDoorG20
import Derived.Test.YtnidkcedomhofaaGreatDoorG04
import Derived.Test.YtnidkcedomhofaaGreatDoorG08
namespace Go.Proofs.YtnidkcedomhofaaGreatDoor
open Go.RowKit

def mkB (p : List UInt8) : ByteArray := ⟨p.toArray⟩
theorem mkB_list (p : List UInt8) : (mkB p).data.toList = p := by simp [mkB]
theorem eq_text (s : ByteArray) (p : List UInt8) : (s.toList == (mkB p).toList) = decide (p = s.data.toList) := by
  rw [ByteArray.toList_eq, ByteArray.toList_eq]
  rw [show (mkB p).data.toList = p from mkB_list p]
  by_cases h : p = s.data.toList
  · simp [h]
  · rw [decide_eq_false h, beq_eq_false_iff_ne]; exact fun e => h e.symm
theorem idx_place (s : ByteArray) : ∀ (l : List (List UInt8)) (i : Nat), Lib.idxByFrom (fun x y : ByteArray => x.toList == y.toList) s (l.map mkB) i = placeN l s.data.toList i
  | [], i => rfl
  | p :: l, i => by
    rw [List.map_cons, Lib.idxByFrom, placeN, eq_text, idx_place s l (i + 1)]
    by_cases h : p = s.data.toList <;> simp [h]
theorem cells_mk {w : World} {g : Nat} {l : List (List UInt8)} (h : CellsAt w g (pcC l)) : ∀ j, j < (l.map mkB).length → w.cell? ⟨g, 0 + j, none⟩ = some (.string (l.map mkB)[j]!) := by
  intro j hj
  rw [Nat.zero_add]
  refine h j _ ?_
  rw [List.length_map] at hj
  rw [getElem!_pos _ _ (by rwa [List.length_map])]
  simp [pcC, mkB, List.getElem?_eq_getElem hj]
set_option maxHeartbeats 1000000 in
theorem freqOf_any (s : ByteArray) (w : World) (hv : VV w) :
    Calls Tryz.prog 53 #[.string s] w fun e w' => e = .returned (.int .i64 (freqL s.data.toList)) ∧ w' = w := by
  have cc := Tryz.slices_Index Value.string (fun x y => x.toList == y.toList) (EqlAt.string _ _) 0 0 5 5 (freqB.map mkB) s w (by decide) (by decide) (cells_mk (l := freqB) hv.frq)
  rw [show Lib.idxBy (fun x y : ByteArray => x.toList == y.toList) ((freqB.map mkB).take 5) s = placeN freqB s.data.toList 0 from idx_place s freqB 0] at cc
  have hr := placeN_range freqB s.data.toList 0
  have HF : Hid (freqL s.data.toList = max 0 (placeN freqB s.data.toList 0)) := Lib.hid rfl
  simp only [freqB, List.length_cons, List.length_nil] at hr
  generalize placeN freqB s.data.toList 0 = z at cc hr HF
  go_enter Tryz.func53, Tryz.ntmps53
  go_wp2_with (go_at_call 94; refine cc.mono ?_; rintro e w' ⟨rfl, hw⟩; subst w')
  go_ret
  exact ⟨by rw [HF.out]; first | rfl | (congr 2; omega), rfl⟩
set_option maxHeartbeats 1000000 in
theorem dayOf_any (s : ByteArray) (w : World) (hv : VV w) :
    Calls Tryz.prog 119 #[.string s] w fun e w' => e = .returned (.int .i64 (dayL s.data.toList)) ∧ w' = w := by
  have cc := Tryz.slices_Index Value.string (fun x y => x.toList == y.toList) (EqlAt.string _ _) 1 0 7 7 (dayB.map mkB) s w (by decide) (by decide) (cells_mk (l := dayB) hv.wds)
  rw [show Lib.idxBy (fun x y : ByteArray => x.toList == y.toList) ((dayB.map mkB).take 7) s = placeN dayB s.data.toList 0 from idx_place s dayB 0] at cc
  have HF : Hid (dayL s.data.toList = placeN dayB s.data.toList 0) := Lib.hid rfl
  generalize placeN dayB s.data.toList 0 = z at cc HF
  go_enter Tryz.func119, Tryz.ntmps119
  go_wp2_with (go_at_call 94; refine cc.mono ?_; rintro e w' ⟨rfl, hw⟩; subst w')
  go_ret
  exact ⟨by rw [HF.out]; rfl, rfl⟩
theorem cntL_cases (l : List UInt8) (most : Int) : (cntL l most = 0 ∧ ((numV l most).2 = false ∨ (numV l most).1 = 0 ∨ 4 < l.length)) ∨ (0 < cntL l most ∧ (numV l most).2 = true ∧ cntL l most = (numV l most).1 ∧ l.length ≤ 4) := by
  have h := (numV_rg l most).1
  unfold cntL
  by_cases h1 : (numV l most).2 = true
  · by_cases h2 : l.length ≤ 4
    · rw [if_pos ⟨h1, h2⟩]
      by_cases h3 : (numV l most).1 = 0
      · exact .inl ⟨h3, .inr (.inl h3)⟩
      · exact .inr ⟨by omega, h1, rfl, h2⟩
    · rw [if_neg (fun k => h2 k.2)]
      exact .inl ⟨rfl, .inr (.inr (by omega))⟩
  · rw [if_neg (fun k => h1 k.1)]
    exact .inl ⟨rfl, .inl (by simpa using h1)⟩
set_option maxHeartbeats 2000000 in
theorem count14_any (s : ByteArray) (hs : s.size ≤ 1048576) (most : Int) (w : World) :
    Calls Tryz.prog 117 #[.string s, .int .i64 most] w fun e w' => e = .returned (.tuple #[.int .i64 (numV s.data.toList most).1, .bool (decide (cntL s.data.toList most ≠ 0))]) ∧ w' = w := by
  have cn := number_any s (by omega) most w
  have hl : s.data.toList.length = s.size := (bsize s).symm
  have hr := (numV_rg s.data.toList most).1
  have H : (decide (cntL s.data.toList most ≠ 0)) = ((numV s.data.toList most).2 && decide (0 < (numV s.data.toList most).1) && decide (s.size ≤ 4)) := by
    rcases cntL_cases s.data.toList most with ⟨h1, h2⟩ | ⟨h1, h2, h3, h4⟩
    · rw [h1]
      rcases h2 with h2 | h2 | h2
      · simp [h2]
      · simp [h2]
      · have : ¬ s.size ≤ 4 := by omega
        simp [this]
    · rw [h2]
      have a : 0 < (numV s.data.toList most).1 := by omega
      have b : s.size ≤ 4 := by omega
      have c : cntL s.data.toList most ≠ 0 := by omega
      simp [a, b, c]
  rw [H]
  clear H
  generalize numV s.data.toList most = p at cn hr
  obtain ⟨n, ok⟩ := p
  simp only at cn hr
  clear hl
  have hk : ok = false ∨ (ok = true ∧ ¬ 0 < n) ∨ (ok = true ∧ 0 < n ∧ ¬ s.size ≤ 4) ∨ (ok = true ∧ 0 < n ∧ s.size ≤ 4) := by
    cases ok
    · exact .inl rfl
    · by_cases h : 0 < n
      · by_cases h2 : s.size ≤ 4
        · exact .inr (.inr (.inr ⟨rfl, h, h2⟩))
        · exact .inr (.inr (.inl ⟨rfl, h, h2⟩))
      · exact .inr (.inl ⟨rfl, h⟩)
  rcases hk with rfl | ⟨rfl, h⟩ | ⟨rfl, h, h2⟩ | ⟨rfl, h, h2⟩
  · go_enter Tryz.func117, Tryz.ntmps117
    go_wp2_with (go_at_call 135; refine cn.mono ?_; rintro e w' ⟨rfl, hw⟩; subst w')
    go_ret2
    exact ⟨rfl, rfl⟩
  · go_enter Tryz.func117, Tryz.ntmps117
    go_wp2_with (go_at_call 135; refine cn.mono ?_; rintro e w' ⟨rfl, hw⟩; subst w')
    go_ret2
    exact ⟨by simp [] <;> omega, rfl⟩
  · have h3 : ¬ (s.size : Int) ≤ 4 := by omega
    go_enter Tryz.func117, Tryz.ntmps117
    go_wp2_with (go_at_call 135; refine cn.mono ?_; rintro e w' ⟨rfl, hw⟩; subst w')
    go_ret2
    exact ⟨by simp [h, h2] <;> omega, rfl⟩
  · have h3 : (s.size : Int) ≤ 4 := by omega
    go_enter Tryz.func117, Tryz.ntmps117
    go_wp2_with (go_at_call 135; refine cn.mono ?_; rintro e w' ⟨rfl, hw⟩; subst w')
    go_ret2
    exact ⟨by simp [h, h2], rfl⟩
theorem cut_pre {l : List UInt8} {c : UInt8} {r : List UInt8} (h : l = c :: r) : Lib.hasPrefix l [c] = true := by subst h; simp [Lib.hasPrefix, List.isPrefixOf]
end Go.Proofs.YtnidkcedomhofaaGreatDoor

/-
  The program's own functions of layer 14: a number that may be below 0; a row of the reader's that grows.
-/
namespace Go.Proofs.YtnidkcedomhofaaGreatDoor
open Go.RowKit

theorem numV_most {l : List UInt8} {most : Int} (h : 0 ≤ most) : 0 ≤ (numV l most).1 ∧ (numV l most).1 ≤ most := by
  unfold numV
  split
  · exact ⟨Int.le_refl _, h⟩
  · split
    · split
      · exact ⟨Int.le_refl _, h⟩
      · exact ⟨by simp only; omega, by simp only; omega⟩
    · exact ⟨Int.le_refl _, h⟩
theorem cnt_is {l : List UInt8} {most : Int} (h : cntL l most ≠ 0) : (numV l most).1 = cntL l most := by
  rcases cntL_cases l most with ⟨h1, _⟩ | ⟨_, _, h3, _⟩
  · exact absurd h1 h
  · exact h3.symm
set_option maxRecDepth 100000 in
set_option maxHeartbeats 2000000 in
theorem either14_any (s : ByteArray) (hs : s.size ≤ 1048576) (most : Int) (hm : 0 ≤ most ∧ most ≤ 10000) (w : World) :
    Calls Tryz.prog 118 #[.string s, .int .i64 most] w fun e w' => ∃ n : Int, e = .returned (.tuple #[.int .i64 n, .bool (decide (eitL s.data.toList most ≠ 0))]) ∧ (eitL s.data.toList most ≠ 0 → n = eitL s.data.toList most) ∧ w' = w := by
  have c1 := Tryz.strings_CutPrefix s ⟨#[45]⟩ w
  have c2 := Tryz.strings_TrimPrefix s ⟨#[43]⟩ w
  have hls := bsize s
  rcases hl : s.data.toList with _ | ⟨c, r⟩
  · have E0 : cntL [] most = 0 := by
      have : numV [] most = (0, false) := by unfold numV; rw [if_pos (.inl rfl)]
      unfold cntL
      rw [this, if_neg (fun k => by cases k.1)]
    have E : Hid (eitL [] most = 0) := Lib.hid (by unfold eitL; exact E0)
    have HS : s = ⟨#[]⟩ := by rw [← list_mk s, hl]
    rw [hl] at c1 c2
    change Calls _ _ _ w fun e w' => e = .returned (.tuple #[.string ⟨#[]⟩, .bool false]) ∧ w' = w at c1
    change Calls _ _ _ w fun e w' => e = .returned (.string ⟨#[]⟩) ∧ w' = w at c2
    have cn := count14_any ⟨#[]⟩ (by rw [bsize]; exact Nat.zero_le _) most w
    rw [show (⟨#[]⟩ : ByteArray).data.toList = [] from rfl, E0, show decide ((0 : Int) ≠ 0) = false from rfl] at cn
    rw [E.out, show decide ((0 : Int) ≠ 0) = false from rfl]
    generalize numV [] most = n0 at cn
    clear hl E0 hls HS
    go_enter Tryz.func118, Tryz.ntmps118
    go_wp2_with (first
      | (go_at_call 145; refine c1.mono ?_; rintro e w' ⟨rfl, hw⟩; subst w'; clear c1)
      | (go_at_call 146; refine c2.mono ?_; rintro e w' ⟨rfl, hw⟩; subst w'; clear c2)
      | (go_at_call 117; refine cn.mono ?_; rintro e w' ⟨rfl, hw⟩; subst w'; clear cn))
    go_ret2
    exact ⟨_, rfl, fun h => absurd rfl h, rfl⟩
  · rw [hl] at hls c1 c2
    simp only [List.length_cons] at hls
    have e1 : Lib.hasPrefix (c :: r) (⟨#[45]⟩ : ByteArray).data.toList = (45 == c) := by simp [Lib.hasPrefix, List.isPrefixOf]
    have e2 : Lib.hasPrefix (c :: r) (⟨#[43]⟩ : ByteArray).data.toList = (43 == c) := by simp [Lib.hasPrefix, List.isPrefixOf]
    unfold Lib.trimPrefix at c1 c2
    rw [e1] at c1
    rw [e2] at c2
    have HS : s = ⟨(c :: r).toArray⟩ := by rw [← hl, list_mk s]
    by_cases h45 : c = 45
    · subst h45
      have c1' : Calls Tryz.prog 145 #[.string s, .string ⟨#[45]⟩] w fun e w' => e = .returned (.tuple #[.string (mkB r), .bool true]) ∧ w' = w := c1
      have cn := count14_any (mkB r) (by rw [bsize, mkB_list]; omega) most w
      rw [mkB_list] at cn
      have hr := numV_most (l := r) hm.1
      have E : Hid (eitL (45 :: r) most = -cntL r most) := Lib.hid rfl
      have HC := Lib.hid (cnt_is (l := r) (most := most))
      generalize (numV r most).1 = n at cn hr HC
      have hD : decide (eitL (45 :: r) most ≠ 0) = decide (cntL r most ≠ 0) := by rw [E.out]; by_cases h : cntL r most = 0 <;> simp [h]
      rw [hD]
      generalize (decide (cntL r most ≠ 0)) = ok at cn
      clear c1 c2 e1 e2 hl HS hD
      go_enter Tryz.func118, Tryz.ntmps118
      go_wp2_with (first
        | (go_at_call 145; refine c1'.mono ?_; rintro e w' ⟨rfl, hw⟩; subst w'; clear c1')
        | (go_at_call 117; refine cn.mono ?_; rintro e w' ⟨rfl, hw⟩; subst w'; clear cn))
      go_ret2
      exact ⟨_, rfl, fun h => by rw [E.out] at h ⊢; rw [HC.out (fun k => h (by rw [k]; rfl))], rfl⟩
    · have b45 : (45 == c) = false := by rw [beq_eq_false_iff_ne]; exact fun e => h45 e.symm
      rw [b45] at c1
      simp only [Bool.false_eq_true, if_false] at c1
      rw [← HS] at c1
      by_cases h43 : c = 43
      · subst h43
        have c2' : Calls Tryz.prog 146 #[.string s, .string ⟨#[43]⟩] w fun e w' => e = .returned (.string (mkB r)) ∧ w' = w := c2
        have cn := count14_any (mkB r) (by rw [bsize, mkB_list]; omega) most w
        rw [mkB_list] at cn
        have E : Hid (eitL (43 :: r) most = cntL r most) := Lib.hid rfl
        have HC := Lib.hid (cnt_is (l := r) (most := most))
        generalize (numV r most).1 = n at cn HC
        rw [E.out]
        generalize (decide (cntL r most ≠ 0)) = ok at cn
        clear c2 e1 e2 hl HS
        go_enter Tryz.func118, Tryz.ntmps118
        go_wp2_with (first
          | (go_at_call 145; refine c1.mono ?_; rintro e w' ⟨rfl, hw⟩; subst w'; clear c1)
          | (go_at_call 146; refine c2'.mono ?_; rintro e w' ⟨rfl, hw⟩; subst w'; clear c2')
          | (go_at_call 117; refine cn.mono ?_; rintro e w' ⟨rfl, hw⟩; subst w'; clear cn))
        go_ret2
        exact ⟨_, rfl, fun h => HC.out h, rfl⟩
      · have b43 : (43 == c) = false := by rw [beq_eq_false_iff_ne]; exact fun e => h43 e.symm
        rw [b43] at c2
        simp only [Bool.false_eq_true, if_false] at c2
        rw [← HS] at c2
        have cn := count14_any s hs most w
        rw [hl] at cn
        have E : Hid (eitL (c :: r) most = cntL (c :: r) most) := Lib.hid (by
          unfold eitL
          split
          · rename_i e; injection e with e; exact absurd e h45
          · rename_i e; injection e with e; exact absurd e h43
          · rfl)
        have HC := Lib.hid (cnt_is (l := c :: r) (most := most))
        generalize (numV (c :: r) most).1 = n at cn HC
        rw [E.out]
        generalize (decide (cntL (c :: r) most ≠ 0)) = ok at cn
        clear e1 e2 hl HS
        go_enter Tryz.func118, Tryz.ntmps118
        go_wp2_with (first
          | (go_at_call 145; refine c1.mono ?_; rintro e w' ⟨rfl, hw⟩; subst w'; clear c1)
          | (go_at_call 146; refine c2.mono ?_; rintro e w' ⟨rfl, hw⟩; subst w'; clear c2)
          | (go_at_call 117; refine cn.mono ?_; rintro e w' ⟨rfl, hw⟩; subst w'; clear cn))
        go_ret2
        exact ⟨_, rfl, fun h => HC.out h, rfl⟩
theorem RB.append {W w1 : World} {K n size k : Nat} {C : Array Value} {e : TypeId} {v : Value} {xs : List Value} {tmp : Obj} (h : RB W K C) (hK : K < n) (hn : n ≤ W.heap.size) (hv : W.ownsRow n e size v k xs) (hg : (W.alloc tmp).grownBy w1 v.ownBlock) : RB w1 K C := by
  refine ((hg.block K (by simp; omega) (fun ej => ?_)).trans (Below.heap_alloc W tmp K (by omega))).trans h
  rcases own_nil_or hv with rfl | ⟨g, cap, rfl, hgb, hng, _⟩
  · simp [Value.ownBlock] at ej
  · rw [hgb] at ej; injection ej with ej; omega
section
variable {W w1 : World} {n : Nat} {r : RuV} {sn : List (List UInt8)} {v1 v2 v3 v4 v5 v' : Value} {tmp : Obj}
theorem Rw.app1 (h : Rw W n r sn v1 v2 v3 v4 v5) (x : Int) (ho : w1.ownsRow n 3 1 v' (r.mon.length + 1) (intC r.mon ++ [.int .i64 x])) (hg : (W.alloc tmp).grownBy w1 v1.ownBlock) (hat : v'.ownBlock = v1.ownBlock ∨ v'.ownBlock = some (W.alloc tmp).heap.size) :
    Rw w1 n { r with mon := r.mon ++ [x] } sn v' v2 v3 v4 v5 :=
  ⟨by rw [intC_app]; simpa [intC] using ho, own_apart h.o2 h.o1 (.inr h.a12.symm) hg, own_apart h.o3 h.o1 (.inl (by decide)) hg, own_apart h.o4 h.o1 (.inr h.a14.symm) hg, own_apart h.o5 h.o1 (.inl (by decide)) hg,
    (apart_new h.o2 h.a12.symm (by simp) hat).symm, (apart_new h.o4 h.a14.symm (by simp) hat).symm, h.a24⟩
theorem Rw.app2 (h : Rw W n r sn v1 v2 v3 v4 v5) (x : Int) (ho : w1.ownsRow n 3 1 v' (r.md.length + 1) (intC r.md ++ [.int .i64 x])) (hg : (W.alloc tmp).grownBy w1 v2.ownBlock) (hat : v'.ownBlock = v2.ownBlock ∨ v'.ownBlock = some (W.alloc tmp).heap.size) :
    Rw w1 n { r with md := r.md ++ [x] } sn v1 v' v3 v4 v5 :=
  ⟨own_apart h.o1 h.o2 (.inr h.a12) hg, by rw [intC_app]; simpa [intC] using ho, own_apart h.o3 h.o2 (.inl (by decide)) hg, own_apart h.o4 h.o2 (.inr h.a24.symm) hg, own_apart h.o5 h.o2 (.inl (by decide)) hg,
    apart_new h.o1 h.a12 (by simp) hat, h.a14, (apart_new h.o4 h.a24.symm (by simp) hat).symm⟩
theorem Rw.app4 (h : Rw W n r sn v1 v2 v3 v4 v5) (x : Int) (ho : w1.ownsRow n 3 1 v' (r.pos.length + 1) (intC r.pos ++ [.int .i64 x])) (hg : (W.alloc tmp).grownBy w1 v4.ownBlock) (hat : v'.ownBlock = v4.ownBlock ∨ v'.ownBlock = some (W.alloc tmp).heap.size) :
    Rw w1 n { r with pos := r.pos ++ [x] } sn v1 v2 v3 v' v5 :=
  ⟨own_apart h.o1 h.o4 (.inr h.a14) hg, own_apart h.o2 h.o4 (.inr h.a24) hg, own_apart h.o3 h.o4 (.inl (by decide)) hg, by rw [intC_app]; simpa [intC] using ho, own_apart h.o5 h.o4 (.inl (by decide)) hg,
    h.a12, apart_new h.o1 h.a14 (by simp) hat, apart_new h.o2 h.a24 (by simp) hat⟩
theorem Rw.app3 (h : Rw W n r sn v1 v2 v3 v4 v5) (x : Int × Int) (ho : w1.ownsRow n 57 2 v' (r.dys.length + 1) (wdC r.dys ++ [.int .i64 x.1, .int .i64 x.2])) (hg : (W.alloc tmp).grownBy w1 v3.ownBlock) :
    Rw w1 n { r with dys := r.dys ++ [x] } sn v1 v2 v' v4 v5 :=
  ⟨own_apart h.o1 h.o3 (.inl (by decide)) hg, own_apart h.o2 h.o3 (.inl (by decide)) hg, by rw [wdC_app]; simpa [wdC] using ho, own_apart h.o4 h.o3 (.inl (by decide)) hg, own_apart h.o5 h.o3 (.inl (by decide)) hg, h.a12, h.a14, h.a24⟩
theorem Rw.app5 (h : Rw W n r sn v1 v2 v3 v4 v5) (x : List UInt8) (ho : w1.ownsRow n 9 1 v' (sn.length + 1) (pcC sn ++ [.string ⟨x.toArray⟩])) (hg : (W.alloc tmp).grownBy w1 v5.ownBlock) :
    Rw w1 n r (sn ++ [x]) v1 v2 v3 v4 v' :=
  ⟨own_apart h.o1 h.o5 (.inl (by decide)) hg, own_apart h.o2 h.o5 (.inl (by decide)) hg, own_apart h.o3 h.o5 (.inl (by decide)) hg, own_apart h.o4 h.o5 (.inl (by decide)) hg, by rw [pcC_app]; simpa [pcC] using ho, h.a12, h.a14, h.a24⟩
end
theorem Rw.re {W : World} {n : Nat} {r : RuV} {sn : List (List UInt8)} {v1 v2 v3 v4 v5 : Value} (h : Rw W n r sn v1 v2 v3 v4 v5) (q : RuV) (e1 : q.mon = r.mon) (e2 : q.md = r.md) (e3 : q.dys = r.dys) (e4 : q.pos = r.pos) : Rw W n q sn v1 v2 v3 v4 v5 :=
  ⟨by rw [e1]; exact h.o1, by rw [e2]; exact h.o2, by rw [e3]; exact h.o3, by rw [e4]; exact h.o4, h.o5, h.a12, h.a14, h.a24⟩
/-- What a method that reads one value answers. -/
def RdAns (k K n : Nat) (r : RuV) (sn : List (List UInt8)) (l : List UInt8) (W : World) (e : Ending) (W' : World) : Prop :=
  ∃ (b : Bool) (q : RuV), e = .returned (.bool b) ∧ Ch K n W W' ∧ KS W W' ∧ Rd K n q sn W' ∧ readK k r l = (if b = true then some q else none)
theorem num_ans {c N : Int} {f : Int → RuV} (h : c ≠ 0 → N = c) : (if c = 0 then none else some (f c)) = (if decide (c ≠ 0) = true then some (f N) else none) := by
  by_cases hc : c = 0
  · simp [hc]
  · rw [if_neg hc, if_pos (by simpa using hc), h hc]
end Go.Proofs.YtnidkcedomhofaaGreatDoor
