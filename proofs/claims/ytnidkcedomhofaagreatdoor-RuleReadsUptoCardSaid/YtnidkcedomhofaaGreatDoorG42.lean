/-
  The document's own answers of layer 14: a text's place in a row; the rows of names.
-/
import Derived.Test.YtnidkcedomhofaaGreatDoorG38
import Derived.Test.YtnidkcedomhofaaGreatDoorG40
import Derived.Test.YtnidkcedomhofaaGreatDoorG21
import Derived.Test.YtnidkcedomhofaaGreatDoorG23
import Derived.Test.YtnidkcedomhofaaGreatDoorG41
import Derived.Test.YtnidkcedomhofaaGreatDoorG04
namespace Go.Proofs.YtnidkcedomhofaaGreatDoor
open Go.RowKit

theorem Sl.str {W : World} {A : Option Addr} {c n : Nat} {l : List (List UInt8)} (h : Sl W (.slice A n c) n 1 (pcC l)) {i : Nat} (hi : i < n) : ∃ b o, A = some ⟨b, o, none⟩ ∧ W.cell? ⟨b, o + i, none⟩ = some (.string ⟨(l.getD i []).toArray⟩) := by
  have hl := h.1
  rw [pcC_len] at hl
  rcases h.2 with ⟨h0, _⟩ | ⟨b, o, c', he, _, hc⟩
  · omega
  · injection he with h1 _ _
    refine ⟨b, o, h1, hc i _ ?_⟩
    have hi2 : i < l.length := by omega
    simp [pcC, List.getElem?_eq_getElem hi2, List.getD_eq_getElem?_getD]
theorem Sl.made {W : World} {T : TypeId} {k c size : Nat} {cs : List Value} (h : cs.length = k * size) : Sl (W.alloc (.cells cs.toArray T)) (.slice (some ⟨W.heap.size, 0, none⟩) k c) k size cs := by
  refine ⟨h, .inr ⟨W.heap.size, 0, c, rfl, by simp, fun j u hj => ?_⟩⟩
  rw [Nat.zero_add]
  exact cell_of (heap_alloc_new W _) (by simpa using hj)
theorem placeN_drop {l : List (List UInt8)} {s : List UInt8} {i : Nat} (hi : i < l.length) : placeN (l.drop i) s i = if l.getD i [] = s then (i : Int) else placeN (l.drop (i + 1)) s (i + 1) := by
  rw [List.drop_eq_getElem_cons hi, placeN]
  simp [List.getD_eq_getElem?_getD, List.getElem?_eq_getElem hi]
set_option maxRecDepth 100000 in
set_option maxHeartbeats 1000000 in
theorem refPlace_any (v : Value) (l : List (List UInt8)) (s : ByteArray) (w : World) (h : Sl w v l.length 1 (pcC l)) (hn : l.length ≤ 100000000) :
    Calls Tryz.prog 23 #[v, .string s] w fun e w' => e = .returned (.int .i64 (placeN l s.data.toList 0)) ∧ Below w.heap.size w w' := by
  obtain ⟨A, c, rfl⟩ := h.lit
  have HS := Lib.hid h
  clear h
  obtain ⟨r, hr⟩ : ∃ r, placeN l s.data.toList 0 = r := ⟨_, rfl⟩
  have HR := Lib.hid hr
  rw [hr]
  clear hr
  obtain ⟨n, hnl⟩ : ∃ n, l.length = n := ⟨_, rfl⟩
  rw [hnl] at HS hn ⊢
  have HN := Lib.hid hnl
  clear hnl
  go_enter Tryz.func23, Tryz.ntmps23
  go_wp2
  go_loopg [5] n (fun g s5 wr => ∃ i : Nat, i ≤ n ∧ n - i ≤ g ∧ s5 = .int .i64 i ∧ Hid (Below w.heap.size w wr ∧ r = placeN (l.drop i) s.data.toList i))
  case atStart => exact ⟨0, Nat.zero_le _, by omega, rfl, Lib.hid ⟨Below.refl _ _, by rw [← HR.out]; rfl⟩⟩
  case round =>
    obtain ⟨i, hi, hg, rfl, HJ⟩ := hrel
    by_cases hlt : i < n
    · have hin : (i : Int) < (n : Int) := by omega
      obtain ⟨b1, o1, rfl, g1⟩ := (HS.out.step HJ.out.1).str hlt
      have hp := placeN_drop (l := l) (s := s.data.toList) (i := i) (by rw [HN.out]; exact hlt)
      obtain ⟨p, hpd⟩ : ∃ p, l.getD i [] = p := ⟨_, rfl⟩
      rw [hpd] at g1 hp
      clear hpd
      obtain ⟨P, hP⟩ : ∃ P : ByteArray, ⟨p.toArray⟩ = P := ⟨_, rfl⟩
      rw [hP] at g1
      have hPl : P.data.toList = p := by rw [← hP]
      by_cases hx : p = s.data.toList
      · have E : Hid (r = (i : Int)) := Lib.hid (by rw [HJ.out.2, hp, if_pos hx])
        have e1 : (P.toList == s.toList) = true := by rw [Lib.toList_data, Lib.toList_data, hPl, hx]; simp
        have e2 : P = s := by rw [← hP, hx]
        clear hp hP hPl hx
        subst e2
        go_wp2
        go_ret
        rw [E.out]
        exact ⟨rfl, HJ.out.1⟩
      · have HJ2 : Hid (Below w.heap.size w wr ∧ r = placeN (l.drop (i + 1)) s.data.toList (i + 1)) := Lib.hid ⟨HJ.out.1, by rw [HJ.out.2, hp, if_neg hx]⟩
        have e1 : (P.toList == s.toList) = false := by rw [Lib.toList_data, Lib.toList_data, hPl, beq_eq_false_iff_ne]; exact hx
        clear hp hP hPl hx
        go_wp2
        go_roundg (n - (i + 1))
        case measure => omega
        case rel => exact ⟨i + 1, by omega, by omega, by go_num, HJ2⟩
    · obtain rfl : i = n := by omega
      have E : Hid (r = -1) := Lib.hid (by rw [HJ.out.2, List.drop_of_length_le (by rw [HN.out]; exact Nat.le_refl _)]; rfl)
      go_wp2
      go_ret
      rw [E.out]
      exact ⟨rfl, HJ.out.1⟩
theorem refNames_any (w : World) : Calls Tryz.prog 24 #[] w fun e w' => ∃ v, e = .returned v ∧ Sl w' v 9 1 (pcC nameB) ∧ Below w.heap.size w w' := by
  go_enter Tryz.func24, Tryz.ntmps24
  go_wp2
  go_ret
  exact ⟨_, rfl, Sl.made (cs := pcC nameB) rfl, (Below.refl _ _).alloc (Nat.le_refl _) _⟩
theorem refFreqs_any (w : World) : Calls Tryz.prog 25 #[] w fun e w' => ∃ v, e = .returned v ∧ Sl w' v 5 1 (pcC freqB) ∧ Below w.heap.size w w' := by
  go_enter Tryz.func25, Tryz.ntmps25
  go_wp2
  go_ret
  exact ⟨_, rfl, Sl.made (cs := pcC freqB) rfl, (Below.refl _ _).alloc (Nat.le_refl _) _⟩
theorem refDays14_any (w : World) : Calls Tryz.prog 44 #[] w fun e w' => ∃ v, e = .returned v ∧ Sl w' v 7 1 (pcC dayB) ∧ Below w.heap.size w w' := by
  go_enter Tryz.func44, Tryz.ntmps44
  go_wp2
  go_ret
  exact ⟨_, rfl, Sl.made (cs := pcC dayB) rfl, (Below.refl _ _).alloc (Nat.le_refl _) _⟩
end Go.Proofs.YtnidkcedomhofaaGreatDoor

/-
  The document's own answers of layer 14: a number, perhaps with a sign; a day of the week, perhaps with a number.
-/
namespace Go.Proofs.YtnidkcedomhofaaGreatDoor
open Go.RowKit

theorem cntL_or (l : List UInt8) (most : Int) : cntL l most = if (numV l most).2 = true ∧ l.length ≤ 4 then (numV l most).1 else 0 := rfl
theorem eitL_other {c : UInt8} {r : List UInt8} (most : Int) (h1 : c ≠ 45) (h2 : c ≠ 43) : eitL (c :: r) most = cntL (c :: r) most := by
  unfold eitL
  split
  · rename_i e; injection e with e; exact absurd e h1
  · rename_i e; injection e with e; exact absurd e h2
  · rfl
/-- What a number is, by its sign. -/
def sgnL (l : List UInt8) (most : Int) (b : Bool) : Int := if b = true then eitL l most else cntL l most
set_option maxRecDepth 100000 in
set_option maxHeartbeats 2000000 in
theorem refNum0_any (s : ByteArray) (hs : s.size ≤ 1048576) (most : Int) (hm : 0 ≤ most ∧ most ≤ 10000) (w : World) :
    Calls Tryz.prog 56 #[.string s, .int .i64 most, .bool false] w fun e w' => e = .returned (.int .i64 (cntL s.data.toList most)) ∧ w' = w := by
  have cn := refNumber_any s (by omega) most w
  have hr := numV_most (l := s.data.toList) hm.1
  have hE := cntL_or s.data.toList most
  have hb := bsize s
  rw [← hb] at hE
  generalize cntL s.data.toList most = R at hE ⊢
  generalize (numV s.data.toList most).1 = n at cn hr hE
  generalize (numV s.data.toList most).2 = ok at cn hE
  have HE := Lib.hid hE
  clear hE hb
  cases ok
  · have E : Hid (R = 0) := Lib.hid (by rw [HE.out, if_neg (fun k => by cases k.1)])
    go_enter Tryz.func56, Tryz.ntmps56
    go_wp2_with (go_at_call 95; refine cn.mono ?_; rintro e w' ⟨rfl, hw⟩; subst w'; clear cn)
    go_ret
    rw [E.out]
    exact ⟨rfl, rfl⟩
  · by_cases h4 : s.size ≤ 4
    · have E : Hid (R = n) := Lib.hid (by rw [HE.out, if_pos ⟨rfl, h4⟩])
      have h5 : ¬ ((4 : Int) < (s.size : Int)) := by omega
      go_enter Tryz.func56, Tryz.ntmps56
      go_wp2_with (go_at_call 95; refine cn.mono ?_; rintro e w' ⟨rfl, hw⟩; subst w'; clear cn)
      go_ret
      rw [E.out]
      exact ⟨by first | rfl | (congr 1), rfl⟩
    · have E : Hid (R = 0) := Lib.hid (by rw [HE.out, if_neg (fun k => h4 k.2)])
      have h5 : ((4 : Int) < (s.size : Int)) := by omega
      go_enter Tryz.func56, Tryz.ntmps56
      go_wp2_with (go_at_call 95; refine cn.mono ?_; rintro e w' ⟨rfl, hw⟩; subst w'; clear cn)
      go_ret
      rw [E.out]
      exact ⟨rfl, rfl⟩
theorem ext1 {s : ByteArray} {c : UInt8} {r : List UInt8} (h : s.data.toList = c :: r) : s.extract 1 s.size = ⟨r.toArray⟩ := by
  have hs : s.size = r.length + 1 := by rw [bsize, h]; rfl
  rw [piece_mk, h, hs]
  simp
theorem at0 {s : ByteArray} {c : UInt8} {r : List UInt8} (h : s.data.toList = c :: r) (hs : 0 < s.size) : s[0] = c := by
  have : s.data.toList[0]? = some c := by rw [h]; rfl
  rw [Array.getElem?_toList] at this
  have h2 : s.data[0]? = some (s.data[0]) := Array.getElem?_eq_getElem hs
  rw [h2] at this
  exact Option.some.inj this
set_option maxRecDepth 100000 in
set_option maxHeartbeats 4000000 in
theorem refNum1_any (s : ByteArray) (hs : s.size ≤ 1048576) (most : Int) (hm : 0 ≤ most ∧ most ≤ 10000) (w : World) :
    Calls Tryz.prog 56 #[.string s, .int .i64 most, .bool true] w fun e w' => e = .returned (.int .i64 (eitL s.data.toList most)) ∧ w' = w := by
  rcases hl : s.data.toList with _ | ⟨c, r⟩
  · have E : Hid (eitL [] most = 0) := Lib.hid (by
      have : numV [] most = (0, false) := by unfold numV; rw [if_pos (.inl rfl)]
      show cntL [] most = 0
      unfold cntL
      rw [this, if_neg (fun k => by cases k.1)])
    have HS : s = ⟨#[]⟩ := by rw [← list_mk s, hl]
    subst HS
    have cn := refNumber_any ⟨#[]⟩ (by decide) most w
    rw [show numV (⟨#[]⟩ : ByteArray).data.toList most = (0, false) from by unfold numV; rw [if_pos (.inl rfl)]] at cn
    go_enter Tryz.func56, Tryz.ntmps56
    go_wp2_with (go_at_call 95; refine cn.mono ?_; rintro e w' ⟨rfl, hw⟩; subst w'; clear cn)
    go_ret
    rw [E.out]
    exact ⟨rfl, rfl⟩
  · have hpos : 0 < s.size := by rw [bsize, hl]; simp
    have h0 : s[0] = c := at0 hl hpos
    have hx := ext1 hl
    have z0 : (!s.toList.isEmpty) = true := by rw [Lib.toList_data, hl]; rfl
    have z00 : (s.toList == []) = false := by rw [Lib.toList_data, hl]; rfl
    have z01 : (s.toList != []) = true := by rw [Lib.toList_data, hl]; rfl
    have hsr0 : s.size = r.length + 1 := by rw [bsize, hl]; rfl
    have hsr := Lib.hid hsr0
    by_cases hsg : c = 45 ∨ c = 43
    · have cn := refNumber_any (s.extract 1 s.size) (by rw [hx, mk_size]; omega) most w
      have hxl : (s.extract 1 s.size).data.toList = r := by rw [hx]
      have hxs : (s.extract 1 s.size).size = r.length := by rw [hx, mk_size]
      rw [hxl] at cn
      have hr := numV_most (l := r) hm.1
      have hE := cntL_or r most
      generalize hRR : cntL r most = R at hE
      generalize (numV r most).1 = n at cn hr hE
      generalize (numV r most).2 = ok at cn hE
      have HE := Lib.hid hE
      have HL := Lib.hid hl
      have HX := Lib.hid hxs
      clear hE hx hxl hl hsr0
      generalize hY : s.extract 1 s.size = Y at cn hxs HX
      rcases hsg with rfl | rfl
      · have z1 : (((s[0].toNat : Nat) : Int) == 43) = false := by rw [h0]; rfl
        have z2 : (((s[0].toNat : Nat) : Int) == 45) = true := by rw [h0]; rfl
        have EE : Hid (eitL (45 :: r) most = -R) := Lib.hid (by rw [← hRR]; rfl)
        clear hRR
        cases ok
        · clear hxs
          have E : Hid (R = 0) := Lib.hid (by rw [HE.out, if_neg (fun k => by cases k.1)])
          go_enter Tryz.func56, Tryz.ntmps56
          go_wp2_with (go_at_call 95; refine cn.mono ?_; rintro e w' ⟨rfl, hw⟩; subst w'; clear cn)
          go_ret
          rw [EE.out, E.out]
          exact ⟨by first | rfl | (congr 1), rfl⟩
        · by_cases h4 : r.length ≤ 4
          · have h5 : ¬ ((4 : Int) < (r.length : Int)) := by omega
            have E : Hid (R = n) := Lib.hid (by rw [HE.out, if_pos ⟨rfl, h4⟩])
            go_enter Tryz.func56, Tryz.ntmps56
            go_wp2_with (go_at_call 95; refine cn.mono ?_; rintro e w' ⟨rfl, hw⟩; subst w'; clear cn)
            go_ret
            rw [EE.out, E.out]
            exact ⟨by first | rfl | (congr 1), rfl⟩
          · have h5 : ((4 : Int) < (r.length : Int)) := by omega
            have E : Hid (R = 0) := Lib.hid (by rw [HE.out, if_neg (fun k => h4 k.2)])
            go_enter Tryz.func56, Tryz.ntmps56
            go_wp2_with (go_at_call 95; refine cn.mono ?_; rintro e w' ⟨rfl, hw⟩; subst w'; clear cn)
            go_ret
            rw [EE.out, E.out]
            exact ⟨by first | rfl | (congr 1), rfl⟩
      · have z1 : (((s[0].toNat : Nat) : Int) == 43) = true := by rw [h0]; rfl
        have z2 : (((s[0].toNat : Nat) : Int) == 45) = false := by rw [h0]; rfl
        have EE : Hid (eitL (43 :: r) most = R) := Lib.hid (by rw [← hRR]; rfl)
        clear hRR
        cases ok
        · clear hxs
          have E : Hid (R = 0) := Lib.hid (by rw [HE.out, if_neg (fun k => by cases k.1)])
          go_enter Tryz.func56, Tryz.ntmps56
          go_wp2_with (go_at_call 95; refine cn.mono ?_; rintro e w' ⟨rfl, hw⟩; subst w'; clear cn)
          go_ret
          rw [EE.out, E.out]
          exact ⟨by first | rfl | (congr 1), rfl⟩
        · by_cases h4 : r.length ≤ 4
          · have h5 : ¬ ((4 : Int) < (r.length : Int)) := by omega
            have E : Hid (R = n) := Lib.hid (by rw [HE.out, if_pos ⟨rfl, h4⟩])
            go_enter Tryz.func56, Tryz.ntmps56
            go_wp2_with (go_at_call 95; refine cn.mono ?_; rintro e w' ⟨rfl, hw⟩; subst w'; clear cn)
            go_ret
            rw [EE.out, E.out]
            exact ⟨by first | rfl | (congr 1), rfl⟩
          · have h5 : ((4 : Int) < (r.length : Int)) := by omega
            have E : Hid (R = 0) := Lib.hid (by rw [HE.out, if_neg (fun k => h4 k.2)])
            go_enter Tryz.func56, Tryz.ntmps56
            go_wp2_with (go_at_call 95; refine cn.mono ?_; rintro e w' ⟨rfl, hw⟩; subst w'; clear cn)
            go_ret
            rw [EE.out, E.out]
            exact ⟨by first | rfl | (congr 1), rfl⟩
    · have h45 : c ≠ 45 := fun e => hsg (.inl e)
      have h43 : c ≠ 43 := fun e => hsg (.inr e)
      have n45 : ¬ (((s[0].toNat : Nat) : Int) = ((45 : Nat) : Int)) := fun e => h45 (UInt8.toNat_inj.1 (by rw [← h0]; exact Int.ofNat.inj e))
      have n43 : ¬ (((s[0].toNat : Nat) : Int) = ((43 : Nat) : Int)) := fun e => h43 (UInt8.toNat_inj.1 (by rw [← h0]; exact Int.ofNat.inj e))
      have z1 : (((s[0].toNat : Nat) : Int) == 43) = false := by rw [beq_eq_false_iff_ne]; exact n43
      have z2 : (((s[0].toNat : Nat) : Int) == 45) = false := by rw [beq_eq_false_iff_ne]; exact n45
      have cn := refNumber_any s (by omega) most w
      have hr := numV_most (l := s.data.toList) hm.1
      have hE := cntL_or s.data.toList most
      have hbs : s.data.toList.length = s.size := (bsize s).symm
      rw [hbs] at hE
      have EE : Hid (eitL (c :: r) most = cntL s.data.toList most) := Lib.hid (by rw [eitL_other most h45 h43, hl])
      generalize cntL s.data.toList most = R at hE EE
      generalize (numV s.data.toList most).1 = n at cn hr hE
      generalize (numV s.data.toList most).2 = ok at cn hE
      have HE := Lib.hid hE
      clear hE hl h0 h45 h43 n45 n43 hsg hsr0 hbs hx
      cases ok
      · have E : Hid (R = 0) := Lib.hid (by rw [HE.out, if_neg (fun k => by cases k.1)])
        go_enter Tryz.func56, Tryz.ntmps56
        go_wp2_with (go_at_call 95; refine cn.mono ?_; rintro e w' ⟨rfl, hw⟩; subst w'; clear cn)
        go_ret
        rw [EE.out, E.out]
        exact ⟨rfl, rfl⟩
      · by_cases h4 : s.size ≤ 4
        · have h5 : ¬ ((4 : Int) < (s.size : Int)) := by omega
          have E : Hid (R = n) := Lib.hid (by rw [HE.out, if_pos ⟨rfl, h4⟩])
          go_enter Tryz.func56, Tryz.ntmps56
          go_wp2_with (go_at_call 95; refine cn.mono ?_; rintro e w' ⟨rfl, hw⟩; subst w'; clear cn)
          go_ret
          rw [EE.out, E.out]
          exact ⟨by first | rfl | (congr 1), rfl⟩
        · have h5 : ((4 : Int) < (s.size : Int)) := by omega
          have E : Hid (R = 0) := Lib.hid (by rw [HE.out, if_neg (fun k => h4 k.2)])
          go_enter Tryz.func56, Tryz.ntmps56
          go_wp2_with (go_at_call 95; refine cn.mono ?_; rintro e w' ⟨rfl, hw⟩; subst w'; clear cn)
          go_ret
          rw [EE.out, E.out]
          exact ⟨rfl, rfl⟩
end Go.Proofs.YtnidkcedomhofaaGreatDoor
