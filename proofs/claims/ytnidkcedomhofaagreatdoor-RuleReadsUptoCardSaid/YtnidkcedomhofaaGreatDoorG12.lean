/-
  Plain mathematics for layer 13 (value): times, rows of times, and periods.
-/
import Derived.Test.YtnidkcedomhofaaGreatDoorG07
import Derived.Lib.Strings
import Derived.Lib.IndexMore
import Derived.Test.YtnidkcedomhofaaGreatDoorG11
import Derived.BigQuiet
namespace Go.Proofs.YtnidkcedomhofaaGreatDoor
open Go.RowKit

/-- A time: its second, whether it is UTC's, whether it is a day. -/
structure Wh where
  secs : Int
  utc : Bool
  date : Bool
deriving DecidableEq
def Wh.zero : Wh := ⟨0, false, false⟩
def stripZ (l : List UInt8) : List UInt8 := Lib.trimSuffix l [90]
def endsZ (l : List UInt8) : Bool := Lib.hasSuffix l [90]
/-- What a text is read as, as a time. -/
noncomputable def timV (l : List UInt8) : Wh × Int :=
  if (rdDay l).2 = 0 then (⟨(rdDay l).1 * 86400, false, true⟩, 0)
  else if (rdStamp (stripZ l)).2 = 0 then (⟨(rdStamp (stripZ l)).1, endsZ l, false⟩, 0)
  else (Wh.zero, 10)
theorem rdDay_case (l : List UInt8) : (∃ n, isDay l n ∧ rdDay l = (n, 0)) ∨ rdDay l = (0, 10) := by
  by_cases h : ∃ n, isDay l n
  · obtain ⟨n, hn⟩ := h
    exact .inl ⟨n, hn, readV_is hn fun m hm => dayT_inj hm.1 hn.1 (hm.2.trans hn.2.symm)⟩
  · exact .inr (readV_no fun n hn => h ⟨n, hn⟩)
theorem rdStamp_case (l : List UInt8) : (∃ t, isStamp l t ∧ rdStamp l = (t, 0)) ∨ rdStamp l = (0, 10) := by
  by_cases h : ∃ n, isStamp l n
  · obtain ⟨n, hn⟩ := h
    refine .inl ⟨n, hn, ?_⟩
    have := rdStamp_back hn.1
    rwa [hn.2] at this
  · exact .inr (readV_no fun n hn => h ⟨n, hn⟩)
theorem stampT_length {t : Int} (h : inD t = true) : (stampT t).length = 15 := ((isStamp_iff (stampT t) t).1 ⟨h, rfl⟩).1
theorem stampT_last {t : Int} (h : inD t = true) : ∃ a c, stampT t = a ++ [c] ∧ digN c.toNat = true := by
  unfold stampT
  rw [if_pos h, clk_num (by omega)]
  exact ⟨_, _, by rw [padT, ← List.append_assoc], digC_dig _⟩
theorem dayT_head {n : Int} (h : -719162 ≤ n ∧ n ≤ 2932896) : ∃ c r, dayT n = c :: r ∧ digN c.toNat = true := by
  obtain ⟨y, m, d, hd, rfl⟩ := num_of h
  rw [(dayT_num hd).1, padT_cons]
  exact ⟨_, _, rfl, digC_dig _⟩
theorem stampT_head {t : Int} (h : inD t = true) : ∃ c r, stampT t = c :: r ∧ digN c.toNat = true := by
  obtain ⟨c, r, e, hc⟩ := dayT_head (inD_day h)
  unfold stampT
  rw [if_pos h, e]
  exact ⟨_, _, rfl, hc⟩
theorem endsZ_iff (l : List UInt8) : endsZ l = true ↔ ∃ a, l = a ++ [90] := by
  unfold endsZ Lib.hasSuffix
  rw [List.isSuffixOf_iff_suffix]
  exact ⟨fun ⟨a, h⟩ => ⟨a, h.symm⟩, fun ⟨a, h⟩ => ⟨a, h.symm⟩⟩
theorem stripZ_app (a : List UInt8) : stripZ (a ++ [90]) = a ∧ endsZ (a ++ [90]) = true := by
  have h : endsZ (a ++ [90]) = true := (endsZ_iff _).2 ⟨a, rfl⟩
  refine ⟨?_, h⟩
  unfold stripZ Lib.trimSuffix
  unfold endsZ at h
  rw [if_pos h]
  simp
theorem stripZ_no {l : List UInt8} (h : endsZ l = false) : stripZ l = l := by
  unfold stripZ Lib.trimSuffix
  unfold endsZ at h
  rw [h]; rfl
/-- A time as the document reads it. -/
noncomputable def timR (l : List UInt8) : Wh × Int :=
  if l.length = 8 then (if (rdDay l).2 = 0 then (⟨(rdDay l).1 * 86400, false, true⟩, 0) else (Wh.zero, 10))
  else if l.length = 16 ∧ l[15]? = some 90 then (if (rdStamp (l.take 15)).2 = 0 then (⟨(rdStamp (l.take 15)).1, true, false⟩, 0) else (Wh.zero, 10))
  else (if (rdStamp l).2 = 0 then (⟨(rdStamp l).1, false, false⟩, 0) else (Wh.zero, 10))
theorem timR_eq (l : List UInt8) : timR l = timV l := by
  unfold timR timV
  by_cases h8 : l.length = 8
  · rw [if_pos h8]
    by_cases hd : (rdDay l).2 = 0
    · rw [if_pos hd, if_pos hd]
    · rw [if_neg hd, if_neg hd]
      have : rdStamp (stripZ l) = (0, 10) := rdStamp_len (by unfold stripZ Lib.trimSuffix; split <;> simp <;> omega)
      rw [this, if_neg (by decide)]
  · rw [if_neg h8, rdDay_len h8, if_neg (show ¬ ((0, 10) : Int × Int).2 = 0 by decide)]
    cases hz : endsZ l
    · rw [stripZ_no hz, if_neg]
      rintro ⟨h1, h2⟩
      have : endsZ l = true := (endsZ_iff l).2 ⟨l.take 15, by
        have := List.take_append_drop 15 l
        rw [List.drop_eq_getElem_cons (by omega)] at this
        rw [List.getElem?_eq_getElem (by omega)] at h2
        rw [Option.some.inj h2, List.drop_of_length_le (by omega)] at this
        exact this.symm⟩
      rw [hz] at this; cases this
    · obtain ⟨a, rfl⟩ := (endsZ_iff l).1 hz
      rw [(stripZ_app a).1]
      by_cases h15 : a.length = 15
      · rw [if_pos ⟨by simp [h15], by simp [h15]⟩]
        rw [List.take_append_of_le_length (by omega), List.take_of_length_le (by omega)]
      · rw [if_neg (fun k => h15 (by have := k.1; simp at this; omega)), rdStamp_len h15, if_neg (show ¬ ((0, 10) : Int × Int).2 = 0 by decide)]
        rw [if_neg]
        intro h0
        rcases rdStamp_case (a ++ [90]) with ⟨t, ht, _⟩ | e
        · obtain ⟨b, c, e, hc⟩ := stampT_last ht.1
          rw [ht.2] at e
          have := (List.append_inj' e rfl).2
          injection this with e1
          subst e1
          revert hc; decide
        · rw [e] at h0; revert h0; decide
theorem timV_case (l : List UInt8) : ((timV l).2 = 0 ∧ -62135596800 ≤ (timV l).1.secs ∧ (timV l).1.secs ≤ 253402300799) ∨ timV l = (Wh.zero, 10) := by
  unfold timV
  rcases rdDay_case l with ⟨n, hn, e⟩ | e
  · left
    rw [e, if_pos rfl]
    have := hn.1
    exact ⟨rfl, by simp only; omega, by simp only; omega⟩
  · rw [e, if_neg (by decide)]
    rcases rdStamp_case (stripZ l) with ⟨t, ht, e⟩ | e
    · left
      rw [e, if_pos rfl]
      have := (inD_iff t).1 ht.1
      exact ⟨rfl, by simp only; omega, by simp only; omega⟩
    · right
      rw [e, if_neg (by decide)]
theorem timV_head {l : List UInt8} (h : (timV l).2 = 0) : ∃ c r, l = c :: r ∧ digN c.toNat = true := by
  unfold timV at h
  rcases rdDay_case l with ⟨n, hn, e⟩ | e
  · rw [← hn.2]; exact dayT_head hn.1
  · rw [e, if_neg (by decide)] at h
    rcases rdStamp_case (stripZ l) with ⟨t, ht, e⟩ | e
    · obtain ⟨c, r, e2, hc⟩ := stampT_head ht.1
      rw [ht.2] at e2
      cases hz : endsZ l
      · rw [stripZ_no hz] at e2; exact ⟨c, r, e2, hc⟩
      · obtain ⟨a, rfl⟩ := (endsZ_iff l).1 hz
        rw [(stripZ_app a).1] at e2
        subst e2
        exact ⟨c, r ++ [90], rfl, hc⟩
    · rw [e, if_neg (by decide)] at h
      cases h
theorem durV_head {l : List UInt8} (h : (durV l).2 = 0) : ∀ c r, l = c :: r → digN c.toNat = false := by
  intro c r hl
  subst hl
  cases hd : digN c.toNat
  · rfl
  · exfalso
    have h1 : c ≠ 43 := by rintro rfl; revert hd; decide
    have h2 : c ≠ 45 := by rintro rfl; revert hd; decide
    have h3 : c ≠ 80 := by rintro rfl; revert hd; decide
    have e : durV (c :: r) = (0, 10) := by
      unfold durV
      split
      · rename_i e; injection e with e _; exact absurd e h1
      · rename_i e; injection e with e _; exact absurd e h2
      · unfold durB
        split
        · rename_i e; injection e with e _; exact absurd e h3
        · rfl
    rw [e] at h; revert h; decide
theorem tim_dur {l : List UInt8} (h : (timV l).2 = 0) : durV l = (0, 10) := by
  obtain ⟨c, r, e, hc⟩ := timV_head h
  rcases (durV_range l).2 with h2 | h2
  · have := durV_head h2 c r e
    rw [hc] at this; cases this
  · exact h2
/-- A time as it is written: what would be its text. -/
def timS (w : Wh) : List UInt8 := if w.date = true then dayT (w.secs / 86400) else stampT w.secs ++ (if w.utc = true then [90] else [])
open Classical in
noncomputable def timT (w : Wh) : List UInt8 := if timV (timS w) = (w, 0) then timS w else []
theorem stampT_bad {t : Int} (h : inD t = false) : stampT t = [] := by unfold stampT; rw [h]; rfl
theorem timV_stamp {t : Int} (h : inD t = true) (u : Bool) : timV (stampT t ++ (if u = true then [90] else [])) = (⟨t, u, false⟩, 0) := by
  have hl := stampT_length h
  unfold timV
  rw [rdDay_len (by rw [List.length_append]; cases u <;> simp <;> omega), if_neg (by decide)]
  cases u
  · have hz : endsZ (stampT t) = false := by
      cases hz : endsZ (stampT t)
      · rfl
      · obtain ⟨a, e⟩ := (endsZ_iff _).1 hz
        obtain ⟨b, c, e2, hc⟩ := stampT_last h
        rw [e] at e2
        have := (List.append_inj' e2 rfl).2
        injection this with e1
        subst e1
        revert hc; decide
    simp only [Bool.false_eq_true, if_false, List.append_nil]
    rw [stripZ_no hz, rdStamp_back h, if_pos rfl, hz]
  · simp only [if_true]
    rw [(stripZ_app _).1, (stripZ_app _).2, rdStamp_back h, if_pos rfl]
theorem timV_nil (u : Bool) : timV (([] : List UInt8) ++ (if u = true then [90] else [])) = (Wh.zero, 10) := by
  rcases timV_case (([] : List UInt8) ++ (if u = true then [90] else [])) with h | h
  · obtain ⟨c, r, e, hc⟩ := timV_head h.1
    cases u
    · cases e
    · injection e with e _
      subst e
      revert hc; decide
  · exact h
theorem timT_yes {w : Wh} (h : timV (timS w) = (w, 0)) : timT w = timS w := by unfold timT; rw [if_pos h]
theorem timT_no {w : Wh} (h : (timV (timS w)).2 ≠ 0 ∨ (timV (timS w)).1 ≠ w) : timT w = [] := by
  unfold timT
  rw [if_neg]
  intro e
  rw [e] at h
  rcases h with h | h <;> exact h rfl
/-- A time as the document writes it. -/
theorem timT_ref (w : Wh) : timT w = if inD w.secs = false ∨ (w.date = true ∧ (w.utc = true ∨ w.secs % 86400 ≠ 0)) then [] else timS w := by
  obtain ⟨s, u, d⟩ := w
  simp only
  by_cases hin : inD s = true
  · cases d
    · have e := timV_stamp hin u
      rw [timT_yes (w := ⟨s, u, false⟩) e, if_neg]
      rintro (k | ⟨k, _⟩)
      · rw [hin] at k; cases k
      · cases k
    · have hd := inD_day hin
      have e : timV (timS ⟨s, u, true⟩) = (⟨s / 86400 * 86400, false, true⟩, 0) := by
        unfold timV timS
        simp only [if_true]
        rw [rdDay_back hd, if_pos rfl]
      by_cases h : u = true ∨ s % 86400 ≠ 0
      · rw [if_pos (.inr ⟨rfl, h⟩)]
        refine timT_no (.inr ?_)
        rw [e]
        intro k
        injection k with k1 k2 k3
        rcases h with h | h
        · rw [h] at k2; cases k2
        · omega
      · have h1 : u = false := by cases u <;> simp at h ⊢
        have h2 : s % 86400 = 0 := by
          rcases Int.decEq (s % 86400) 0 with k | k
          · exact absurd (.inr k) h
          · exact k
        rw [if_neg (fun k => k.elim (fun k => by rw [hin] at k; cases k) (fun k => h k.2))]
        refine timT_yes ?_
        rw [e, h1, show s / 86400 * 86400 = s by omega]
  · have hin' : inD s = false := by simpa using hin
    rw [if_pos (.inl hin')]
    refine timT_no (.inl ?_)
    cases d
    · have : timS ⟨s, u, false⟩ = [] ++ (if u = true then [90] else []) := by unfold timS; rw [stampT_bad hin']; rfl
      rw [this, timV_nil]
      show (10 : Int) ≠ 0
      decide
    · have hb : dayT (s / 86400) = [] := dayT_bad (by
        have : ¬ (-62135596800 ≤ s ∧ s ≤ 253402300799) := fun h => hin ((inD_iff s).2 h)
        omega)
      have : timS ⟨s, u, true⟩ = [] ++ (if false = true then [90] else []) := by unfold timS; rw [if_pos rfl, hb]; rfl
      rw [this, timV_nil]
      show (10 : Int) ≠ 0
      decide
theorem timT_back (w : Wh) (h : timT w ≠ []) : timV (timT w) = (w, 0) := by
  unfold timT at h ⊢
  split
  · assumption
  · rename_i h1; rw [if_neg h1] at h; exact absurd rfl h
theorem timS_len (w : Wh) : (timS w).length ≤ 16 := by
  unfold timS
  split
  · by_cases h : w.secs / 86400 < -719162 ∨ 2932896 < w.secs / 86400
    · rw [dayT_bad h]; simp
    · rw [dayT_length (by omega)]; omega
  · cases hin : inD w.secs
    · rw [stampT_bad hin]; split <;> simp
    · rw [List.length_append, stampT_length hin]; split <;> simp

/-- Pieces with commas between. -/
def splitA : List UInt8 → List UInt8 → List (List UInt8)
  | acc, [] => [acc]
  | acc, c :: l => if c = 44 then acc :: splitA [] l else splitA (acc ++ [c]) l
theorem splitA_len : ∀ (l acc : List UInt8), (splitA acc l).length = l.count 44 + 1
  | [], acc => rfl
  | c :: l, acc => by
    rw [splitA]
    by_cases h : c = 44
    · subst h
      rw [if_pos rfl, List.length_cons, splitA_len l, List.count_cons_self]
    · rw [if_neg h, splitA_len l, List.count_cons_of_ne h]
noncomputable def mapT : List (List UInt8) → Option (List Wh)
  | [] => some []
  | p :: ps => if (timV p).2 = 0 then (mapT ps).map ((timV p).1 :: ·) else none
theorem mapT_snoc : ∀ (ps : List (List UInt8)) (p : List UInt8), mapT (ps ++ [p]) = (mapT ps).bind fun l => if (timV p).2 = 0 then some (l ++ [(timV p).1]) else none
  | [], p => by simp only [List.nil_append, mapT]; split <;> rfl
  | q :: ps, p => by
    rw [List.cons_append, mapT, mapT, mapT_snoc ps p]
    by_cases h : (timV q).2 = 0
    · rw [if_pos h, if_pos h]
      cases mapT ps with
      | none => rfl
      | some l => simp only [Option.map_some, Option.bind_some]; split <;> rfl
    · rw [if_neg h, if_neg h]; rfl
theorem mapT_pre : ∀ (a c : List (List UInt8)), mapT a = none → mapT (a ++ c) = none
  | [], c, hn => by cases hn
  | q :: ps, c, hn => by
    rw [List.cons_append]
    unfold mapT at hn ⊢
    by_cases h : (timV q).2 = 0
    · rw [if_pos h] at hn ⊢
      have : mapT ps = none := by
        cases hm : mapT ps with
        | none => rfl
        | some l => rw [hm] at hn; cases hn
      rw [mapT_pre ps c this]
      rfl
    · rw [if_neg h]
theorem mapT_len : ∀ (ps : List (List UInt8)) (l : List Wh), mapT ps = some l → l.length = ps.length
  | [], l, h => by simp only [mapT, Option.some.injEq] at h; subst h; rfl
  | p :: ps, l, h => by
    rw [mapT] at h
    split at h
    · cases hm : mapT ps with
      | none => rw [hm] at h; cases h
      | some l' =>
        rw [hm] at h
        simp only [Option.map_some, Option.some.injEq] at h
        subst h
        simp [mapT_len ps l' hm]
    · cases h
/-- Times, and why there are none. -/
noncomputable def timesV (l : List UInt8) : List Wh × Int :=
  if 100 < (splitA [] l).length then ([], 27) else match mapT (splitA [] l) with
    | some ws => (ws, 0)
    | none => ([], 10)

/-- What is read as a period: its start, its length. -/
noncomputable def perV (l : List UInt8) : (Wh × Int) × Int :=
  if (Lib.cut l [47]).2.2 = true ∧ (timV (Lib.cut l [47]).1).2 = 0 ∧ (timV (Lib.cut l [47]).1).1.date = false then
    (if (durV (Lib.cut l [47]).2.1).2 = 0 then (if (durV (Lib.cut l [47]).2.1).1 < 0 then ((Wh.zero, 0), 10) else (((timV (Lib.cut l [47]).1).1, (durV (Lib.cut l [47]).2.1).1), 0))
    else if (timV (Lib.cut l [47]).2.1).2 = 0 ∧ (timV (Lib.cut l [47]).2.1).1.date = false ∧ (timV (Lib.cut l [47]).2.1).1.utc = (timV (Lib.cut l [47]).1).1.utc ∧ ¬ (timV (Lib.cut l [47]).2.1).1.secs < (timV (Lib.cut l [47]).1).1.secs then
      (((timV (Lib.cut l [47]).1).1, (timV (Lib.cut l [47]).2.1).1.secs - (timV (Lib.cut l [47]).1).1.secs), 0)
    else ((Wh.zero, 0), 10))
  else ((Wh.zero, 0), 10)
/-- How long, as the program tells it of a start and what stands behind the stroke. -/
noncomputable def longW (w : Wh) (b : List UInt8) : Int × Bool :=
  if (timV b).2 = 0 then ((timV b).1.secs - w.secs, !(timV b).1.date && ((timV b).1.utc == w.utc)) else ((durV b).1, decide ((durV b).2 = 0))
theorem perV_prog (l : List UInt8) : perV l = if (timV (Lib.cut l [47]).1).2 ≠ 0 ∨ (timV (Lib.cut l [47]).1).1.date = true ∨ (longW (timV (Lib.cut l [47]).1).1 (Lib.cut l [47]).2.1).2 = false ∨ (longW (timV (Lib.cut l [47]).1).1 (Lib.cut l [47]).2.1).1 < 0 then ((Wh.zero, 0), 10)
    else (((timV (Lib.cut l [47]).1).1, (longW (timV (Lib.cut l [47]).1).1 (Lib.cut l [47]).2.1).1), 0) := by
  have hc : (Lib.cut l [47]).2.2 = false → (Lib.cut l [47]).2.1 = [] := by
    unfold Lib.cut
    split <;> simp
  unfold perV
  generalize (Lib.cut l [47]).2.2 = ok at *
  generalize (Lib.cut l [47]).2.1 = b at *
  generalize timV (Lib.cut l [47]).1 = A at *
  obtain ⟨⟨s, u, d⟩, e⟩ := A
  simp only
  by_cases h1 : e = 0
  · subst h1
    cases d
    · cases ok
      · rw [hc rfl]
        rw [if_neg (fun k => by cases k.1), if_pos]
        right; right; left
        have h0 := timV_nil false
        simp only [Bool.false_eq_true, if_false, List.append_nil] at h0
        unfold longW
        rw [h0, if_neg (by decide)]
        rfl
      · rw [if_pos ⟨rfl, rfl, rfl⟩]
        unfold longW
        by_cases ht : (timV b).2 = 0
        · rw [if_pos ht, tim_dur ht, if_neg (by decide)]
          generalize (timV b).1 = B at *
          obtain ⟨s2, u2, d2⟩ := B
          simp only [ht, true_and]
          by_cases hx : d2 = false ∧ u2 = u ∧ ¬ s2 < s
          · rw [if_pos hx, if_neg]
            obtain ⟨h1, h2, h3⟩ := hx
            subst h1 h2
            simp
            omega
          · rw [if_neg hx, if_pos]
            right; right
            cases d2
            · by_cases hu : u2 = u
              · right
                have : s2 < s := by
                  rcases Int.lt_or_le s2 s with h | h
                  · exact h
                  · exact absurd ⟨rfl, hu, by omega⟩ hx
                omega
              · left
                simp [hu]
            · left; rfl
        · rw [if_neg ht]
          rcases (durV_range b).2 with h2 | h2
          · rw [if_pos h2]
            by_cases hn : (durV b).1 < 0
            · rw [if_pos hn, if_pos (.inr (.inr (.inr hn)))]
            · rw [if_neg hn, if_neg]
              simp [h2]; omega
          · rw [h2, if_neg (by decide), if_neg (fun k => ht k.1), if_pos (.inr (.inr (.inl rfl)))]
    · rw [if_neg (fun k => by cases k.2.2), if_pos (.inr (.inl rfl))]
  · rw [if_neg (fun k => h1 k.2.1), if_pos (.inl h1)]
noncomputable def perS (w : Wh) (n : Int) : List UInt8 := timT w ++ 47 :: durT n
open Classical in
noncomputable def perT (w : Wh) (n : Int) : List UInt8 := if perV (perS w n) = ((w, n), 0) then perS w n else []
theorem perT_back (w : Wh) (n : Int) (h : perT w n ≠ []) : perV (perT w n) = ((w, n), 0) := by
  unfold perT at h ⊢
  split
  · assumption
  · rename_i h1; rw [if_neg h1] at h; exact absurd rfl h
end Go.Proofs.YtnidkcedomhofaaGreatDoor

/-
  The document's own answers of layer 10: a time as HTTP writes it.
-/
namespace Go.Proofs.YtnidkcedomhofaaGreatDoor
open Go.RowKit

/-- A region that draws its order, whose operations read and whose calls leave what lay before: one walk, in the order of the text. -/
theorem region_belowD {P : Program} {id : Nat} {Q : Exit → Act → World → Prop} {a : Act} {w0 w : World} {l : List Oper} (hC : Below w0.heap.size w0 w) (hm : P.follows .mixedOrders = true) (hB : Region.lexB .any l.toArray = true)
    (h : wpQuiet P l.toArray (fun w' => Below w0.heap.size w0 w') (fun a' => ∀ w', Below w0.heap.size w0 w' → Q .normal a' w') l a) : (Code.region id l.toArray true).wp P Q a w :=
  wp_region_quiet (C := fun w' => Below w0.heap.size w0 w') hm hB hC.drew (by simpa using h)
def weekB : ByteArray := ⟨#[77, 111, 110, 84, 117, 101, 87, 101, 100, 84, 104, 117, 70, 114, 105, 83, 97, 116, 83, 117, 110]⟩
def monthB : ByteArray := ⟨#[74, 97, 110, 70, 101, 98, 77, 97, 114, 65, 112, 114, 77, 97, 121, 74, 117, 110, 74, 117, 108, 65, 117, 103, 83, 101, 112, 79, 99, 116, 78, 111, 118, 68, 101, 99]⟩

theorem week_cut {V : Nat} (h : V ≤ 6) : weekB.extract (3 * V) (3 * V + 3) = ⟨(wdT V).toArray⟩ := by
  have : V = 0 ∨ V = 1 ∨ V = 2 ∨ V = 3 ∨ V = 4 ∨ V = 5 ∨ V = 6 := by omega
  rcases this with rfl | rfl | rfl | rfl | rfl | rfl | rfl <;> decide +kernel
theorem month_cut {M : Nat} (h : 1 ≤ M ∧ M ≤ 12) : monthB.extract (3 * M - 3) (3 * M) = ⟨(monT M).toArray⟩ := by
  have : M = 1 ∨ M = 2 ∨ M = 3 ∨ M = 4 ∨ M = 5 ∨ M = 6 ∨ M = 7 ∨ M = 8 ∨ M = 9 ∨ M = 10 ∨ M = 11 ∨ M = 12 := by omega
  rcases this with rfl | rfl | rfl | rfl | rfl | rfl | rfl | rfl | rfl | rfl | rfl | rfl <;> decide +kernel

end Go.Proofs.YtnidkcedomhofaaGreatDoor
