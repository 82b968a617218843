/-
  A text without blanks at its ends, as the document makes it.
-/
import Derived.Test.YtnadnccmlbleoaaDoorTextTrim
import Derived.Test.YtnadnccmlbleoaaDoorTextNumberR
namespace Go.Proofs.YtnadnccmlbleoaaDoor
open Go.RowKit

/-- A blank or a tab. -/
def isBl (c : UInt8) : Prop := c.toNat = 32 ∨ c.toNat = 9
instance (c : UInt8) : Decidable (isBl c) := inferInstanceAs (Decidable (_ ∨ _))
theorem isBl_iff (c : UInt8) : isBl c ↔ (c = 32 ∨ c = 9) := by
  unfold isBl
  rw [← UInt8.toNat_inj, ← UInt8.toNat_inj]
  rfl
theorem ext_list (t : ByteArray) (i j : Nat) : (t.extract i j).data.toList = (t.data.toList.drop i).take (j - i) := by
  rw [ByteArray.data_extract, Array.toList_extract, List.extract_eq_take_drop]

theorem left_step {l m : List UInt8} {c : UInt8} (h : m = c :: l) (hc : isBl c) : Lib.trimLeftS m [32, 9] = Lib.trimLeftS l [32, 9] := by
  subst h
  unfold Lib.trimLeftS
  rw [List.dropWhile_cons_of_pos]
  rcases (isBl_iff c).1 hc with rfl | rfl <;> decide
theorem left_stop {l m : List UInt8} {c : UInt8} (h : m = c :: l) (hc : ¬ isBl c) : Lib.trimLeftS m [32, 9] = m := by
  subst h
  unfold Lib.trimLeftS
  rw [List.dropWhile_cons_of_neg]
  intro hh
  apply hc
  rw [isBl_iff]
  simpa using hh
theorem right_step {l m : List UInt8} {c : UInt8} (h : m = l ++ [c]) (hc : isBl c) : Lib.trimRightS m [32, 9] = Lib.trimRightS l [32, 9] := by
  subst h
  unfold Lib.trimRightS
  rw [List.reverse_append, List.reverse_singleton, List.singleton_append, List.dropWhile_cons_of_pos]
  rcases (isBl_iff c).1 hc with rfl | rfl <;> decide
theorem right_stop {l m : List UInt8} {c : UInt8} (h : m = l ++ [c]) (hc : ¬ isBl c) : Lib.trimRightS m [32, 9] = m := by
  subst h
  unfold Lib.trimRightS
  rw [List.reverse_append, List.reverse_singleton, List.singleton_append, List.dropWhile_cons_of_neg]
  · simp
  · intro hh
    apply hc
    rw [isBl_iff]
    simpa using hh
theorem left_all (l : List UInt8) (h : ∀ c ∈ l, isBl c) : Lib.trimLeftS l [32, 9] = [] := by
  induction l with
  | nil => rfl
  | cons c l ih => rw [left_step rfl (h c (by simp))]; exact ih fun x hx => h x (by simp [hx])
theorem right_all (l : List UInt8) (h : ∀ c ∈ l, isBl c) : Lib.trimRightS l [32, 9] = [] := by
  have := left_all l.reverse fun c hc => h c (by simpa using hc)
  unfold Lib.trimLeftS at this
  unfold Lib.trimRightS
  rw [this]; rfl
theorem left_mid {c : UInt8} (hb : ¬ isBl c) (b : List UInt8) : ∀ a : List UInt8, Lib.trimLeftS (a ++ c :: b) [32, 9] = Lib.trimLeftS (a ++ [c]) [32, 9] ++ b
  | [] => by rw [List.nil_append, List.nil_append, left_stop (c := c) (l := b) rfl hb, left_stop (c := c) (l := []) rfl hb]; rfl
  | x :: a => by
    by_cases hx : isBl x
    · rw [List.cons_append, List.cons_append, left_step (c := x) (l := a ++ c :: b) rfl hx, left_step (c := x) (l := a ++ [c]) rfl hx]
      exact left_mid hb b a
    · rw [List.cons_append, List.cons_append, left_stop (c := x) (l := a ++ c :: b) rfl hx, left_stop (c := x) (l := a ++ [c]) rfl hx]; simp
theorem left_last {c : UInt8} (hb : ¬ isBl c) : ∀ a : List UInt8, ∃ q, Lib.trimLeftS (a ++ [c]) [32, 9] = q ++ [c]
  | [] => ⟨[], left_stop (l := []) rfl hb⟩
  | x :: a => by
    by_cases hx : isBl x
    · rw [List.cons_append, left_step (c := x) (l := a ++ [c]) rfl hx]; exact left_last hb a
    · exact ⟨x :: a, left_stop (l := a ++ [c]) rfl hx⟩
theorem right_eq (l : List UInt8) : Lib.trimRightS l [32, 9] = (Lib.trimLeftS l.reverse [32, 9]).reverse := rfl
theorem right_mid {c : UInt8} (hb : ¬ isBl c) (a b : List UInt8) : Lib.trimRightS (a ++ c :: b) [32, 9] = a ++ Lib.trimRightS (c :: b) [32, 9] := by
  rw [right_eq, right_eq, show (a ++ c :: b).reverse = b.reverse ++ c :: a.reverse by simp, left_mid hb, show (c :: b).reverse = b.reverse ++ [c] by simp]
  simp
theorem right_head {c : UInt8} (hb : ¬ isBl c) (b : List UInt8) : ∃ r, Lib.trimRightS (c :: b) [32, 9] = c :: r := by
  rw [right_eq, show (c :: b).reverse = b.reverse ++ [c] by simp]
  obtain ⟨q, hq⟩ := left_last hb b.reverse
  exact ⟨q.reverse, by rw [hq]; simp⟩
/-- Whichever end comes first. -/
theorem trim_swap (l : List UInt8) : Lib.trimRightS (Lib.trimLeftS l [32, 9]) [32, 9] = trimL l := by
  unfold trimL Lib.trimS
  by_cases h : ∀ c ∈ l, isBl c
  · rw [left_all l h, right_all l h]; rfl
  · have hx : ∃ c, c ∈ l ∧ ¬ isBl c := by
      apply Classical.byContradiction
      intro hh
      exact h fun c hc => Classical.byContradiction fun hb => hh ⟨c, hc, hb⟩
    obtain ⟨c, hc, hb⟩ := hx
    obtain ⟨a, b, rfl⟩ := List.append_of_mem hc
    obtain ⟨r, hr⟩ := right_head hb b
    obtain ⟨q, hq⟩ := left_last hb a
    rw [right_mid hb a b, hr, left_mid hb r, left_mid hb b, hq, List.append_assoc, List.singleton_append, right_mid hb q b, hr]
    simp

/-- How long a text is that a slot holds. -/
def lenV : Value → Nat
  | .string t => t.size
  | _ => 0
theorem last_of (u : ByteArray) (h : u.size - 1 < u.size) : u.data.toList = (u.extract 0 (u.size - 1)).data.toList ++ [u[u.size - 1]] := by
  rw [ext_list, List.drop_zero, Nat.sub_zero]
  have h' : u.size - 1 < u.data.toList.length := by rw [← bsize]; exact h
  have e : u.data.toList[u.size - 1]'h' = u[u.size - 1] := by rw [Array.getElem_toList]; rfl
  rw [← e, List.take_append_getElem, List.take_of_length_le]
  rw [← bsize]; omega
theorem head_of (u : ByteArray) (h : 0 < u.size) : u.data.toList = u[0] :: (u.extract 1 u.size).data.toList := by
  rw [ext_list]
  have h' : 0 < u.data.toList.length := by rw [← bsize]; exact h
  have e : u.data.toList[0]'h' = u[0] := by rw [Array.getElem_toList]; rfl
  rw [← e, List.take_of_length_le (by rw [List.length_drop, ← bsize]; exact Nat.le_refl _), ← List.drop_eq_getElem_cons h', List.drop_zero]

set_option maxRecDepth 100000 in
set_option maxHeartbeats 4000000 in
theorem refTrim_any (s : ByteArray) (hs : s.size ≤ 16777216) (w : World) :
    Calls Tryd.prog 27 #[.string s] w fun e w' => e = .returned (.string ⟨(trimL s.data.toList).toArray⟩) ∧ w' = w := by
  go_enter Tryd.func27, Tryd.ntmps27
  go_wp2
  go_loopw [0] (fun p wr => ∃ t : ByteArray, p = .string t ∧ t.size ≤ 16777216 ∧ wr = w ∧ Hid (Lib.trimLeftS s.data.toList [32, 9] = Lib.trimLeftS t.data.toList [32, 9])) (fun p _ => lenV p)
  case atStart => exact ⟨s, rfl, hs, rfl, Lib.hid rfl⟩
  case round =>
    obtain ⟨t, rfl, ht, rfl, HT⟩ := hrel
    by_cases h0 : t.size < 1
    · have HS : Hid (Lib.trimLeftS t.data.toList [32, 9] = t.data.toList) := Lib.hid (by
        have hn : t.data.toList = [] := List.eq_nil_of_length_eq_zero (by rw [← bsize]; omega)
        rw [hn]; rfl)
      obtain rfl : t = ⟨#[]⟩ := of_mk (List.eq_nil_of_length_eq_zero (l := t.data.toList) (by rw [← bsize]; omega))
      go_wp2
      go_loopw [0] (fun p wr' => ∃ u : ByteArray, p = .string u ∧ u.size ≤ 16777216 ∧ wr' = wr ∧ Hid (Lib.trimRightS (⟨#[]⟩ : ByteArray).data.toList [32, 9] = Lib.trimRightS u.data.toList [32, 9])) (fun p _ => lenV p)
      case atStart => exact ⟨⟨#[]⟩, rfl, ht, rfl, Lib.hid rfl⟩
      case round =>
        obtain ⟨u, rfl, hu, hw, HU⟩ := hrel
        subst hw
        by_cases k0 : u.size < 1
        · have HF : Hid (trimL s.data.toList = u.data.toList) := Lib.hid (by
            rw [← trim_swap, HT.out, HS.out, HU.out]
            have hn : u.data.toList = [] := List.eq_nil_of_length_eq_zero (by rw [← bsize]; omega)
            rw [hn]; rfl)
          obtain rfl : u = ⟨#[]⟩ := of_mk (List.eq_nil_of_length_eq_zero (l := u.data.toList) (by rw [← bsize]; omega))
          go_wp2
          go_ret
          exact ⟨by rw [HF.out]; rfl, by first | rfl | trivial⟩
        · have kne := not_empty k0
          have hul : u.size - 1 < u.size := by omega
          have HR := Lib.hid (last_of u hul)
          by_cases k32 : u[u.size - 1].toNat = 32
          · have HU2 : Hid (Lib.trimRightS (⟨#[]⟩ : ByteArray).data.toList [32, 9] = Lib.trimRightS (u.extract 0 (u.size - 1)).data.toList [32, 9]) := Lib.hid (by
              rw [HU.out, right_step HR.out (.inl k32)])
            have hi : ((u.size : Int) - 1) = ((u.size - 1 : Nat) : Int) := by omega
            go_wp2
            go_round
            case rel => exact ⟨_, rfl, by simp; omega, by first | rfl | trivial, HU2⟩
            case measure => simp [lenV]; omega
          · by_cases k9 : u[u.size - 1].toNat = 9
            · have HU2 : Hid (Lib.trimRightS (⟨#[]⟩ : ByteArray).data.toList [32, 9] = Lib.trimRightS (u.extract 0 (u.size - 1)).data.toList [32, 9]) := Lib.hid (by
                rw [HU.out, right_step HR.out (.inr k9)])
              have hi : ((u.size : Int) - 1) = ((u.size - 1 : Nat) : Int) := by omega
              go_wp2
              go_round
              case rel => exact ⟨_, rfl, by simp; omega, by first | rfl | trivial, HU2⟩
              case measure => simp [lenV]; omega
            · have b32 : ((u[u.size - 1].toNat : Int) == 32) = false := by rw [beq_eq_false_iff_ne]; omega
              have b9 : ((u[u.size - 1].toNat : Int) == 9) = false := by rw [beq_eq_false_iff_ne]; omega
              have HF : Hid ((⟨(trimL s.data.toList).toArray⟩ : ByteArray) = u) := Lib.hid (by
                rw [← trim_swap, HT.out, HS.out, HU.out, right_stop HR.out (by unfold isBl; omega)])
              have hi : ((u.size : Int) - 1) = ((u.size - 1 : Nat) : Int) := by omega
              go_wp2
              go_ret
              exact ⟨by rw [HF.out]; rfl, by first | rfl | trivial⟩
    · have hne := not_empty h0
      have ht0 : 0 < t.size := by omega
      have HH := Lib.hid (head_of t ht0)
      by_cases h32 : t[0].toNat = 32
      · have HT2 : Hid (Lib.trimLeftS s.data.toList [32, 9] = Lib.trimLeftS (t.extract 1 t.size).data.toList [32, 9]) := Lib.hid (by
          rw [HT.out, left_step HH.out (.inl h32)])
        go_wp2
        go_round
        case rel => exact ⟨_, rfl, by simp; omega, by first | rfl | trivial, HT2⟩
        case measure => simp [lenV]; omega
      · by_cases h9 : t[0].toNat = 9
        · have HT2 : Hid (Lib.trimLeftS s.data.toList [32, 9] = Lib.trimLeftS (t.extract 1 t.size).data.toList [32, 9]) := Lib.hid (by
            rw [HT.out, left_step HH.out (.inr h9)])
          go_wp2
          go_round
          case rel => exact ⟨_, rfl, by simp; omega, by first | rfl | trivial, HT2⟩
          case measure => simp [lenV]; omega
        · have b32 : ((t[0].toNat : Int) == 32) = false := by rw [beq_eq_false_iff_ne]; omega
          have b9 : ((t[0].toNat : Int) == 9) = false := by rw [beq_eq_false_iff_ne]; omega
          have HS : Hid (Lib.trimLeftS t.data.toList [32, 9] = t.data.toList) := Lib.hid (left_stop HH.out (by unfold isBl; omega))
          go_wp2
          go_loopw [0] (fun p wr' => ∃ u : ByteArray, p = .string u ∧ u.size ≤ 16777216 ∧ wr' = wr ∧ Hid (Lib.trimRightS t.data.toList [32, 9] = Lib.trimRightS u.data.toList [32, 9])) (fun p _ => lenV p)
          case atStart => exact ⟨t, rfl, ht, rfl, Lib.hid rfl⟩
          case round =>
            obtain ⟨u, rfl, hu, hw, HU⟩ := hrel
            subst hw
            by_cases k0 : u.size < 1
            · have HF : Hid (trimL s.data.toList = u.data.toList) := Lib.hid (by
                rw [← trim_swap, HT.out, HS.out, HU.out]
                have hn : u.data.toList = [] := List.eq_nil_of_length_eq_zero (by rw [← bsize]; omega)
                rw [hn]; rfl)
              obtain rfl : u = ⟨#[]⟩ := of_mk (List.eq_nil_of_length_eq_zero (l := u.data.toList) (by rw [← bsize]; omega))
              go_wp2
              go_ret
              exact ⟨by rw [HF.out]; rfl, by first | rfl | trivial⟩
            · have kne := not_empty k0
              have hul : u.size - 1 < u.size := by omega
              have HR := Lib.hid (last_of u hul)
              by_cases k32 : u[u.size - 1].toNat = 32
              · have HU2 : Hid (Lib.trimRightS t.data.toList [32, 9] = Lib.trimRightS (u.extract 0 (u.size - 1)).data.toList [32, 9]) := Lib.hid (by
                  rw [HU.out, right_step HR.out (.inl k32)])
                have hi : ((u.size : Int) - 1) = ((u.size - 1 : Nat) : Int) := by omega
                go_wp2
                go_round
                case rel => exact ⟨_, rfl, by simp; omega, by first | rfl | trivial, HU2⟩
                case measure => simp [lenV]; omega
              · by_cases k9 : u[u.size - 1].toNat = 9
                · have HU2 : Hid (Lib.trimRightS t.data.toList [32, 9] = Lib.trimRightS (u.extract 0 (u.size - 1)).data.toList [32, 9]) := Lib.hid (by
                    rw [HU.out, right_step HR.out (.inr k9)])
                  have hi : ((u.size : Int) - 1) = ((u.size - 1 : Nat) : Int) := by omega
                  go_wp2
                  go_round
                  case rel => exact ⟨_, rfl, by simp; omega, by first | rfl | trivial, HU2⟩
                  case measure => simp [lenV]; omega
                · have b32 : ((u[u.size - 1].toNat : Int) == 32) = false := by rw [beq_eq_false_iff_ne]; omega
                  have b9 : ((u[u.size - 1].toNat : Int) == 9) = false := by rw [beq_eq_false_iff_ne]; omega
                  have HF : Hid ((⟨(trimL s.data.toList).toArray⟩ : ByteArray) = u) := Lib.hid (by
                    rw [← trim_swap, HT.out, HS.out, HU.out, right_stop HR.out (by unfold isBl; omega)])
                  have hi : ((u.size : Int) - 1) = ((u.size - 1 : Nat) : Int) := by omega
                  go_wp2
                  go_ret
                  exact ⟨by rw [HF.out]; rfl, by first | rfl | trivial⟩

end Go.Proofs.YtnadnccmlbleoaaDoor
