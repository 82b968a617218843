/-
  Plain mathematics for layer 10 (date): what bytes are as a stamp, and as HTTP writes a time.
-/
import Derived.Test.YtdilnofolnabdaaDoorDateText
namespace Go.Proofs.YtdilnofolnabdaaDoor
open Go.RowKit

theorem isDay_uniq {s : List UInt8} {a b : Int} (ha : isDay s a) (hb : isDay s b) : a = b := dayT_inj ha.1 hb.1 (ha.2.trans hb.2.symm)
theorem rdDay_is {s : List UInt8} {n : Int} (h : isDay s n) : rdDay s = (n, 0) := readV_is h fun _ hm => isDay_uniq hm h
theorem rdDay_cases (s : List UInt8) : (∃ n, isDay s n ∧ rdDay s = (n, 0)) ∨ ((∀ n, ¬ isDay s n) ∧ rdDay s = (0, 10)) := by
  by_cases h : ∃ n, isDay s n
  · obtain ⟨n, hn⟩ := h
    exact .inl ⟨n, hn, rdDay_is hn⟩
  · exact .inr ⟨fun n hn => h ⟨n, hn⟩, readV_no fun n hn => h ⟨n, hn⟩⟩
theorem inD_of_day {t : Int} : inD t = true ↔ -719162 ≤ t / 86400 ∧ t / 86400 ≤ 2932896 := by rw [inD_iff]; omega
theorem clkT_length (s : Nat) : (clkT [] s).length = 6 := by simp [clkT, padT_length]
/-- The seconds of a clock; below 0: there is no such time. -/
def clkV (h m s : Int) : Int := if 23 < h ∨ 59 < m ∨ 59 < s then -1 else h * 3600 + m * 60 + s
theorem isStamp_iff (s : List UInt8) (t : Int) : isStamp s t ↔ s.length = 15 ∧ s[8]? = some 84 ∧ isDay (s.take 8) (t / 86400) ∧ s.drop 9 = clkT [] (t % 86400).toNat := by
  constructor
  · rintro ⟨h, rfl⟩
    have hd := inD_of_day.1 h
    have hl := dayT_length hd
    unfold stampT
    rw [h, if_pos rfl]
    refine ⟨?_, ?_, ⟨hd, ?_⟩, ?_⟩
    · simp [hl, clkT_length]
    · rw [List.append_assoc, List.getElem?_append_right (by omega), hl]; rfl
    · rw [List.append_assoc, List.take_append_of_le_length (by omega), List.take_of_length_le (by omega)]
    · rw [List.append_assoc, List.drop_append, List.drop_eq_nil_of_le (by omega), hl]; rfl
  · rintro ⟨hl, h8, hd, hc⟩
    have hin := inD_of_day.2 hd.1
    refine ⟨hin, ?_⟩
    unfold stampT
    rw [hin, if_pos rfl, hd.2, ← hc]
    have e : s = s.take 8 ++ s.drop 8 := (List.take_append_drop 8 s).symm
    have e2 : s.drop 8 = 84 :: s.drop 9 := by
      rw [List.drop_eq_getElem_cons (by omega)]
      rw [List.getElem?_eq_getElem (by omega)] at h8
      rw [Option.some.inj h8]
    rw [List.append_assoc, List.singleton_append, ← e2, ← e]
theorem isStamp_uniq {s : List UInt8} {a b : Int} (ha : isStamp s a) (hb : isStamp s b) : a = b := by
  obtain ⟨_, _, h3, h4⟩ := (isStamp_iff s a).1 ha
  obtain ⟨_, _, g3, g4⟩ := (isStamp_iff s b).1 hb
  have e := isDay_uniq h3 g3
  rw [h4, clk_num (by omega), clk_num (by omega)] at g4
  have := padT_inj (k := 6) (by omega) (by omega) g4
  omega
theorem rdStamp_is {s : List UInt8} {n : Int} (h : isStamp s n) : rdStamp s = (n, 0) := readV_is h fun _ hm => isStamp_uniq hm h
theorem rdStamp_no {s : List UInt8} (h : ∀ n, ¬ isStamp s n) : rdStamp s = (0, 10) := readV_no h
theorem rdStamp_back {t : Int} (h : inD t = true) : rdStamp (stampT t) = (t, 0) := rdStamp_is ⟨h, rfl⟩
theorem rdStamp_len {s : List UInt8} (h : s.length ≠ 15) : rdStamp s = (0, 10) := rdStamp_no fun n hn => h ((isStamp_iff s n).1 hn).1
theorem rdStamp_t {s : List UInt8} (h : s[8]? ≠ some 84) : rdStamp s = (0, 10) := rdStamp_no fun n hn => h ((isStamp_iff s n).1 hn).2.1
theorem rdStamp_day {s : List UInt8} (h : ∀ n, ¬ isDay (s.take 8) n) : rdStamp s = (0, 10) := rdStamp_no fun n hn => h _ ((isStamp_iff s n).1 hn).2.2.1
theorem rdStamp_num {s : List UInt8} (h : numL (s.drop 9) 0 = none) : rdStamp s = (0, 10) := rdStamp_no fun n hn => by
  rw [((isStamp_iff s n).1 hn).2.2.2, clk_num (by omega), numL_pad] at h
  cases h
theorem rdStamp_clk {s : List UInt8} {v : Nat} (hl : s.length = 15) (h : numL (s.drop 9) 0 = some v) (hc : clkV (v / 10000 : Nat) (v / 100 % 100 : Nat) (v % 100 : Nat) < 0) : rdStamp s = (0, 10) := rdStamp_no fun n hn => by
  obtain ⟨e, hb⟩ := pad_numL 6 _ v (by rw [List.length_drop]; omega) h
  have e2 := ((isStamp_iff s n).1 hn).2.2.2
  rw [e, clk_num (by omega)] at e2
  have := padT_inj (k := 6) hb (by omega) e2
  unfold clkV at hc
  split at hc <;> omega
theorem rdStamp_all {s : List UInt8} {v : Nat} {n : Int} (hl : s.length = 15) (h8 : s[8]? = some 84) (hd : isDay (s.take 8) n) (h : numL (s.drop 9) 0 = some v) (hc : ¬ clkV (v / 10000 : Nat) (v / 100 % 100 : Nat) (v % 100 : Nat) < 0) :
    rdStamp s = (n * 86400 + clkV (v / 10000 : Nat) (v / 100 % 100 : Nat) (v % 100 : Nat), 0) := by
  obtain ⟨e, hb⟩ := pad_numL 6 _ v (by rw [List.length_drop]; omega) h
  have hcv : clkV (v / 10000 : Nat) (v / 100 % 100 : Nat) (v % 100 : Nat) = (v / 10000 : Nat) * 3600 + (v / 100 % 100 : Nat) * 60 + (v % 100 : Nat) ∧ (v / 10000 ≤ 23 ∧ v / 100 % 100 ≤ 59 ∧ v % 100 ≤ 59) := by
    unfold clkV at hc ⊢
    split at hc
    · omega
    · rename_i hx
      rw [if_neg hx]
      exact ⟨rfl, by omega⟩
  rw [hcv.1]
  have hb2 := hcv.2
  apply rdStamp_is
  rw [isStamp_iff]
  have d1 : (n * 86400 + ((v / 10000 : Nat) * 3600 + (v / 100 % 100 : Nat) * 60 + (v % 100 : Nat))) / 86400 = n := by omega
  have d2 : ((n * 86400 + ((v / 10000 : Nat) * 3600 + (v / 100 % 100 : Nat) * 60 + (v % 100 : Nat))) % 86400).toNat = v / 10000 * 3600 + v / 100 % 100 * 60 + v % 100 := by omega
  refine ⟨hl, h8, by rw [d1]; exact hd, ?_⟩
  rw [e, d2, clk_num (by omega)]
  congr 1; omega

end Go.Proofs.YtdilnofolnabdaaDoor
