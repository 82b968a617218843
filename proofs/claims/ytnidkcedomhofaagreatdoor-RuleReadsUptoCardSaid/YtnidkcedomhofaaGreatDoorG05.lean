/-
  Plain mathematics for layer 10 (date): what the parts of a text say of a day, a stamp and a time as HTTP writes it.
-/
import Derived.Test.YtnidkcedomhofaaGreatDoorG02
import Derived.Test.YtnidkcedomhofaaGreatDoorG04
namespace Go.Proofs.YtnidkcedomhofaaGreatDoor
open Go.RowKit

theorem pad8 {a b c : Nat} (hb : b < 100) (hc : c < 100) : padT 8 (a * 10000 + b * 100 + c) = padT 4 a ++ (padT 2 b ++ padT 2 c) := by
  have e1 := padT_app 4 2 a b (by omega)
  have e2 := padT_app 6 2 (a * 100 + b) c (by omega)
  rw [show (10 : Nat) ^ 2 = 100 by rfl] at e1 e2
  rw [← List.append_assoc, ← e1, show 4 + 2 = 6 by rfl, ← e2, show 6 + 2 = 8 by rfl]
  congr 1; omega
theorem three_cut (x y z : List UInt8) (hx : x.length = 4) (hy : y.length = 2) : (x ++ (y ++ z)).take 4 = x ∧ cutL (x ++ (y ++ z)) 4 6 = y ∧ (x ++ (y ++ z)).drop 6 = z := by
  refine ⟨?_, ?_, ?_⟩
  · rw [List.take_append_of_le_length (by omega), List.take_of_length_le (by omega)]
  · unfold cutL
    rw [List.drop_append, List.drop_eq_nil_of_le (by omega), hx, List.nil_append]
    simp only [Nat.sub_self, List.drop_zero]
    rw [List.take_append_of_le_length (by omega), List.take_of_length_le (by omega)]
  · rw [List.drop_append, List.drop_eq_nil_of_le (by omega), hx, List.nil_append, List.drop_append, List.drop_eq_nil_of_le (by omega), hy]
    simp
theorem three_is (l : List UInt8) : l = l.take 4 ++ (cutL l 4 6 ++ l.drop 6) := by
  unfold cutL
  have h : (l.drop 4).take 2 ++ l.drop 6 = l.drop 4 := by
    have := List.take_append_drop 2 (l.drop 4)
    rwa [List.drop_drop] at this
  rw [show 6 - 4 = 2 by rfl, h, List.take_append_drop]
/-- A text of digits as a number up to a greatest one. -/
theorem numV_pad {k n : Nat} {most : Int} (hk : 1 ≤ k ∧ k ≤ 18) (h : n < 10 ^ k) : numV (padT k n) most = if most < (n : Int) then (0, false) else ((n : Int), true) := by
  have hx : ¬ (padT k n = [] ∨ 18 < (padT k n).length) := by
    intro hx
    rw [padT_length] at hx
    cases hx with
    | inl e => have := congrArg List.length e; rw [padT_length] at this; simp at this; omega
    | inr e => omega
  unfold numV
  rw [if_neg hx, numL_pad, Nat.mod_eq_of_lt h]
/-- What was read is digits. -/
theorem numV_true {l : List UInt8} {most : Int} (h : (numV l most).2 = true) : ∃ n : Nat, l = padT l.length n ∧ n < 10 ^ l.length ∧ (n : Int) ≤ most ∧ (numV l most).1 = n := by
  unfold numV at h ⊢
  split at h
  · cases h
  · rename_i hx
    rw [if_neg hx]
    cases hn : numL l 0 with
    | none => rw [hn] at h; cases h
    | some n =>
      rw [hn] at h
      dsimp only at h ⊢
      split at h
      · cases h
      · rename_i hm
        rw [if_neg hm]
        obtain ⟨e, hb⟩ := pad_numL l.length l n rfl hn
        exact ⟨n, e, hb, by omega, rfl⟩
theorem numV_false {l : List UInt8} {most : Int} (h : (numV l most).2 = false) : numV l most = (0, false) := by
  unfold numV at h ⊢
  split at h
  · rename_i hx; rw [if_pos hx]
  · rename_i hx
    rw [if_neg hx]
    cases hn : numL l 0 with
    | none => rfl
    | some n =>
      rw [hn] at h
      dsimp only at h ⊢
      split at h
      · rename_i hm; rw [if_pos hm]
      · cases h
/-- A date by the digits of its year and day. -/
def dateW (yr : List UInt8) (m : Int) (dy : List UInt8) : Int × Bool := daysV (numV yr 9999).1 m (numV dy 31).1
theorem daysV_iff {y m d : Int} : (daysV y m d).2 = true ↔ dateD y m d := by
  by_cases h : dateD y m d
  · rw [daysV_ok h]; simp [h]
  · rw [daysV_bad h]; simp [h]
/-- A day out of the parts of eight bytes. -/
theorem rdDay_cut {l : List UInt8} (hl : l.length = 8) : rdDay l = (if (dateW (l.take 4) (numV (cutL l 4 6) 12).1 (l.drop 6)).2 = true then ((dateW (l.take 4) (numV (cutL l 4 6) 12).1 (l.drop 6)).1, 0) else (0, 10)) := by
  unfold dateW
  by_cases h : dateD (numV (l.take 4) 9999).1 (numV (cutL l 4 6) 12).1 (numV (l.drop 6) 31).1
  · rw [daysV_ok h, if_pos rfl]
    obtain ⟨hy, hm⟩ := lenD_range h
    have hd := h
    unfold dateD at hd
    cases h1 : (numV (l.take 4) 9999).2
    · rw [numV_false h1] at hy; exact absurd hy.1 (by decide)
    cases h2 : (numV (cutL l 4 6) 12).2
    · rw [numV_false h2] at hm; exact absurd hm.1 (by decide)
    cases h3 : (numV (l.drop 6) 31).2
    · rw [numV_false h3] at hd; exact absurd hd.1 (by decide)
    obtain ⟨a, ea, ba, _, va⟩ := numV_true h1
    obtain ⟨b, eb, bb, _, vb⟩ := numV_true h2
    obtain ⟨c, ec, bc, _, vc⟩ := numV_true h3
    have l1 : (l.take 4).length = 4 := by rw [List.length_take]; omega
    have l2 : (cutL l 4 6).length = 2 := by unfold cutL; rw [List.length_take, List.length_drop]; omega
    have l3 : (l.drop 6).length = 2 := by rw [List.length_drop]; omega
    rw [l1] at ea ba
    rw [l2] at eb bb
    rw [l3] at ec bc
    rw [va, vb, vc] at h ⊢
    have e := three_is l
    rw [ea, eb, ec, ← pad8 (by omega) (by omega)] at e
    have hn : numL l 0 = some (a * 10000 + b * 100 + c) := by rw [e, numL_pad, Nat.mod_eq_of_lt (by omega)]
    have ha : (a * 10000 + b * 100 + c) / 10000 = a := by omega
    have hb : (a * 10000 + b * 100 + c) / 100 % 100 = b := by omega
    have hc : (a * 10000 + b * 100 + c) % 100 = c := by omega
    rw [rdDay_num hl hn, ha, hb, hc, daysV_ok h, if_pos rfl]
  · rw [daysV_bad h, if_neg (by decide)]
    refine readV_no fun n hn => h ?_
    obtain ⟨hr, rfl⟩ := hn
    obtain ⟨y, m, d, hd, rfl⟩ := num_of hr
    obtain ⟨e, b1, b2, b3⟩ := dayT_num hd
    obtain ⟨hy, hm⟩ := lenD_range hd
    have hp := lenD_pos hy hm
    have hd' := hd
    unfold dateD at hd'
    rw [pad8 (by omega) (by omega)] at e
    obtain ⟨t1, t2, t3⟩ := three_cut (padT 4 y.toNat) (padT 2 m.toNat) (padT 2 d.toNat) (padT_length _ _) (padT_length _ _)
    rw [e, t1, t2, t3, numV_pad (by omega) (by omega), numV_pad (by omega) (by omega), numV_pad (by omega) (by omega), if_neg (by omega), if_neg (by omega), if_neg (by omega)]
    dsimp only
    rw [show ((y.toNat : Nat) : Int) = y by omega, show ((m.toNat : Nat) : Int) = m by omega, show ((d.toNat : Nat) : Int) = d by omega]
    exact hd
/-- What the parts of a clock say. -/
def clkP (h m s : List UInt8) : Int × Bool := ((numV h 23).1 * 3600 + (numV m 59).1 * 60 + (numV s 59).1, (numV h 23).2 && (numV m 59).2 && (numV s 59).2)
theorem six_is {l : List UInt8} : l.drop 9 = cutL l 9 11 ++ (cutL l 11 13 ++ l.drop 13) := by
  unfold cutL
  have h1 : (l.drop 11).take 2 ++ l.drop 13 = l.drop 11 := by
    have := List.take_append_drop 2 (l.drop 11)
    rwa [List.drop_drop] at this
  have h2 : (l.drop 9).take 2 ++ l.drop 11 = l.drop 9 := by
    have := List.take_append_drop 2 (l.drop 9)
    rwa [List.drop_drop] at this
  show l.drop 9 = (l.drop 9).take 2 ++ ((l.drop 11).take 2 ++ l.drop 13)
  rw [h1, h2]
theorem pad6 {a b c : Nat} (hb : b < 100) (hc : c < 100) : padT 6 (a * 10000 + b * 100 + c) = padT 2 a ++ (padT 2 b ++ padT 2 c) := by
  have e1 := padT_app 2 2 a b (by omega)
  have e2 := padT_app 4 2 (a * 100 + b) c (by omega)
  rw [show (10 : Nat) ^ 2 = 100 by rfl] at e1 e2
  rw [← List.append_assoc, ← e1, show 2 + 2 = 4 by rfl, ← e2, show 4 + 2 = 6 by rfl]
  congr 1; omega
theorem app_inj {a b c x y z : List UInt8} (h : a ++ (b ++ c) = x ++ (y ++ z)) (h1 : a.length = x.length) (h2 : b.length = y.length) : a = x ∧ b = y ∧ c = z := by
  obtain ⟨e1, e2⟩ := List.append_inj h h1
  obtain ⟨e3, e4⟩ := List.append_inj e2 h2
  exact ⟨e1, e3, e4⟩
/-- A stamp out of its parts. -/
theorem rdStamp_cut {l : List UInt8} (hl : l.length = 15) (h8 : l[8]? = some 84) : rdStamp l = (if (rdDay (l.take 8)).2 = 0 ∧ (clkP (cutL l 9 11) (cutL l 11 13) (l.drop 13)).2 = true then ((rdDay (l.take 8)).1 * 86400 + (clkP (cutL l 9 11) (cutL l 11 13) (l.drop 13)).1, 0) else (0, 10)) := by
  have l1 : (cutL l 9 11).length = 2 := by unfold cutL; rw [List.length_take, List.length_drop]; omega
  have l2 : (cutL l 11 13).length = 2 := by unfold cutL; rw [List.length_take, List.length_drop]; omega
  have l3 : (l.drop 13).length = 2 := by rw [List.length_drop]; omega
  by_cases h : (rdDay (l.take 8)).2 = 0 ∧ (clkP (cutL l 9 11) (cutL l 11 13) (l.drop 13)).2 = true
  · rw [if_pos h]
    obtain ⟨hd, hc⟩ := h
    rcases rdDay_cases (l.take 8) with ⟨n, hn, e⟩ | ⟨_, e⟩
    · unfold clkP at hc ⊢
      dsimp only at hc
      rw [Bool.and_eq_true, Bool.and_eq_true] at hc
      obtain ⟨⟨c1, c2⟩, c3⟩ := hc
      obtain ⟨a, ea, ba, ma, va⟩ := numV_true c1
      obtain ⟨b, eb, bb, mb, vb⟩ := numV_true c2
      obtain ⟨c, ec, bc, mc, vc⟩ := numV_true c3
      rw [l1] at ea ba
      rw [l2] at eb bb
      rw [l3] at ec bc
      have e6 := six_is (l := l)
      rw [ea, eb, ec, ← pad6 (by omega) (by omega)] at e6
      have hnum : numL (l.drop 9) 0 = some (a * 10000 + b * 100 + c) := by rw [e6, numL_pad, Nat.mod_eq_of_lt (by omega)]
      have ha : (a * 10000 + b * 100 + c) / 10000 = a := by omega
      have hb : (a * 10000 + b * 100 + c) / 100 % 100 = b := by omega
      have hc : (a * 10000 + b * 100 + c) % 100 = c := by omega
      have hcl : clkV ((a * 10000 + b * 100 + c) / 10000 : Nat) ((a * 10000 + b * 100 + c) / 100 % 100 : Nat) ((a * 10000 + b * 100 + c) % 100 : Nat) = (a : Int) * 3600 + b * 60 + c := by
        rw [ha, hb, hc]
        unfold clkV
        rw [if_neg (by omega)]
      rw [rdStamp_all hl h8 hn hnum (by rw [hcl]; omega), hcl, e, va, vb, vc]
    · rw [e] at hd; exact absurd hd (by decide)
  · rw [if_neg h]
    refine rdStamp_no fun t ht => h ?_
    obtain ⟨_, _, hd, hc⟩ := (isStamp_iff l t).1 ht
    refine ⟨by rw [rdDay_is hd], ?_⟩
    rw [six_is] at hc
    unfold clkT at hc
    simp only [List.append_nil, List.append_assoc] at hc
    obtain ⟨e1, e2, e3⟩ := app_inj hc (by rw [l1, padT_length]) (by rw [l2, padT_length])
    unfold clkP
    rw [e1, e2, e3, numV_pad (by omega) (by omega), numV_pad (by omega) (by omega), numV_pad (by omega) (by omega), if_neg (by omega), if_neg (by omega), if_neg (by omega)]
    rfl
/-- A time out of the parts of what HTTP writes. -/
def httpW (l : List UInt8) : Int := (dateW (cutL l 12 16) (monUp (cutL l 8 11) 12) (cutL l 5 7)).1 * 86400 + (clkP (cutL l 17 19) (cutL l 20 22) (cutL l 23 25)).1
theorem httpW_is {l : List UInt8} {t : Int} (h : isHttp l t) : httpW l = t := by
  obtain ⟨hin, rfl⟩ := h
  have hd := inD_day hin
  obtain ⟨y, m, d, hdt, hnum⟩ := num_of hd
  obtain ⟨hy, hm⟩ := lenD_range hdt
  have hp := lenD_pos hy hm
  have ec := civ_num hdt
  rw [← hnum] at ec
  have hdt' := hdt
  unfold dateD at hdt'
  have hw := wdD_range (t / 86400)
  obtain ⟨a1, a2, a3, ea⟩ := wd_three (V := (wdD (t / 86400)).toNat) (by omega)
  obtain ⟨b1, b2, b3, eb⟩ := mon_three (M := m.toNat) (by omega)
  have e : httpT t = [a1, a2, a3, 44, 32, digC (d.toNat / 10), digC d.toNat, 32, b1, b2, b3, 32, digC (y.toNat / 10 / 10 / 10), digC (y.toNat / 10 / 10), digC (y.toNat / 10), digC y.toNat, 32,
      digC ((t % 86400).toNat / 3600 / 10), digC ((t % 86400).toNat / 3600), 58, digC ((t % 86400).toNat / 60 % 60 / 10), digC ((t % 86400).toNat / 60 % 60), 58, digC ((t % 86400).toNat % 60 / 10), digC ((t % 86400).toNat % 60), 32, 71, 77, 84] := by
    unfold httpT
    rw [hin, if_pos rfl, ec, ea]
    dsimp only
    rw [eb]
    rfl
  have hS : (t % 86400).toNat < 86400 := by omega
  have hS2 : t = t / 86400 * 86400 + (t % 86400).toNat := by omega
  generalize (t % 86400).toNat = S at *
  have p1 : cutL (httpT t) 5 7 = padT 2 d.toNat := by rw [e]; rfl
  have p2 : cutL (httpT t) 8 11 = monT m.toNat := by rw [e, eb]; rfl
  have p3 : cutL (httpT t) 12 16 = padT 4 y.toNat := by rw [e]; rfl
  have p4 : cutL (httpT t) 17 19 = padT 2 (S / 3600) := by rw [e]; rfl
  have p5 : cutL (httpT t) 20 22 = padT 2 (S / 60 % 60) := by rw [e]; rfl
  have p6 : cutL (httpT t) 23 25 = padT 2 (S % 60) := by rw [e]; rfl
  unfold httpW dateW clkP
  rw [p1, p2, p3, p4, p5, p6, pad_some (k := 2) (n := d.toNat) (by omega) (by omega) (by omega), pad_some (k := 4) (n := y.toNat) (by omega) (by omega) (by omega), pad_some (k := 2) (n := S / 3600) (by omega) (by omega) (by omega), pad_some (k := 2) (n := S / 60 % 60) (by omega) (by omega) (by omega), pad_some (k := 2) (n := S % 60) (by omega) (by omega) (by omega), monUp_is (by omega)]
  dsimp only
  rw [show ((y.toNat : Nat) : Int) = y by omega, show ((m.toNat : Nat) : Int) = m by omega, show ((d.toNat : Nat) : Int) = d by omega, daysV_ok hdt, ← hnum]
  dsimp only
  omega
theorem rdHttp_cut {l : List UInt8} (hl : l ≠ []) : rdHttp l = (if httpT (httpW l) = l then (httpW l, 0) else (0, 10)) := by
  by_cases h : httpT (httpW l) = l
  · rw [if_pos h]
    cases hin : inD (httpW l)
    · rw [httpT_out hin] at h
      exact absurd h.symm hl
    · exact rdHttp_is ⟨hin, h⟩
  · rw [if_neg h]
    refine rdHttp_no fun n hn => h ?_
    rw [httpW_is hn]
    exact hn.2

end Go.Proofs.YtnidkcedomhofaaGreatDoor
