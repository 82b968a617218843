/-
  A text with small letters, as the document makes it; two texts that are alike.
-/
import Derived.Test.YtnadnccmlbleoaaDoorTextLower
namespace Go.Proofs.YtnadnccmlbleoaaDoor
open Go.RowKit

theorem lowK_keep {l : List UInt8} {k : Nat} (hk : k < l.length) (h : lowC (l.getD k 0) = l.getD k 0) : lowK l k = lowK l (k + 1) := by
  rw [← lowK_set hk, h, ← lowK_get (l := l) (k := k)]
  have hk' : k < (lowK l k).length := by rw [lowK_length]; exact hk
  rw [List.getD_eq_getElem?_getD, List.getElem?_eq_getElem hk']
  simp
theorem lowC_keep {x : UInt8} (h : ¬ (65 ≤ x.toNat ∧ x.toNat ≤ 90)) : lowC x = x := by
  apply UInt8.toNat_inj.1
  rw [lowC_nat]
  unfold lowN
  rw [if_neg h]
theorem lowC_turn {x : UInt8} (h : 65 ≤ x.toNat ∧ x.toNat ≤ 90) : (lowC x).toNat = x.toNat + 32 := by
  rw [lowC_nat]
  unfold lowN
  rw [if_pos h]

set_option maxRecDepth 100000 in
set_option maxHeartbeats 2000000 in
theorem refLower_any (s : ByteArray) (hs : s.size ≤ 16777216) (w : World) :
    Calls Tryd.prog 21 #[.string s] w fun e w' => e = .returned (.string ⟨(lowL s.data.toList).toArray⟩) ∧ Below w.heap.size w w' := by
  have hcv := run_bytes_of_string (P := Tryd.prog) w 9 35 5 s Tryd.underlying9 Tryd.underlying35 Tryd.underlying5
  have hb0 := Byt.of_text w 5 s (grownCap w s.size 0 5)
  have hl0 := Byt.of_text_below w 5 s (grownCap w s.size 0 5)
  generalize hC : grownCap w s.size 0 5 = C at hcv hb0 hl0
  generalize w.drew.alloc (.cells (bytesRow s C) 5 ((bytesRow s C).size, (bytesRow s C).size + 1)) = w1 at hcv hb0 hl0
  generalize hg : w.heap.size = g at hcv hb0 hl0 ⊢
  have HG := Lib.hid hg; clear hg
  have hlen := Lib.hid (bsize s)
  have HB := Lib.hid hb0; have HL := Lib.hid hl0
  clear hb0 hl0 hC
  go_enter Tryd.func21, Tryd.ntmps21
  go_wp2
  clear hcv
  go_loopw [4] (fun p wr => ∃ k : Nat, p = .int .i64 k ∧ k ≤ s.size ∧ Hid (Byt wr g (lowK s.data.toList k)) ∧ Hid (Below g w wr)) (fun p _ => s.size - (intOf p).toNat)
  case atStart => exact ⟨0, rfl, Nat.zero_le _, Lib.hid (by rw [lowK_zero]; exact HB.out), HL⟩
  case round =>
    obtain ⟨k, rfl, hk, HB1, HL1⟩ := hrel
    by_cases hlt : k < s.size
    · have hce := HB1.out.cell k (by rw [lowK_length, ← hlen.out]; exact hlt)
      have hfr := HB1.out.free k (by rw [lowK_length, ← hlen.out]; exact hlt)
      rw [lowK_get] at hce
      obtain ⟨x, hx⟩ : ∃ x, x = s.data.toList.getD k 0 := ⟨_, rfl⟩
      rw [← hx] at hce
      have HX := Lib.hid hx; clear hx
      have hxb := x.toNat_lt
      by_cases h1 : 65 ≤ x.toNat
      · by_cases h2 : x.toNat ≤ 90
        · go_wp2
          have HB2 := Lib.hid (HB1.out.set k (lowC x))
          have HL2 := Lib.hid (HL1.out.setCell (p := ⟨g, k, none⟩) (Nat.le_refl _) (.int .u8 ((lowC x).toNat : Int)))
          rw [HX.out, lowK_set (by rw [← hlen.out]; exact hlt), ← HX.out, lowC_turn ⟨h1, h2⟩] at HB2
          rw [lowC_turn ⟨h1, h2⟩] at HL2
          go_round
          case rel => exact ⟨k + 1, by go_num, by omega, HB2, HL2⟩
          case measure => simp [intOf]; omega
        · have HB2 : Hid (Byt wr g (lowK s.data.toList (k + 1))) := Lib.hid (by rw [← lowK_keep (by rw [← hlen.out]; exact hlt) (by rw [← HX.out]; exact lowC_keep (by omega))]; exact HB1.out)
          go_wp2
          go_round
          case rel => exact ⟨k + 1, by go_num, by omega, HB2, HL1⟩
          case measure => simp [intOf]; omega
      · have HB2 : Hid (Byt wr g (lowK s.data.toList (k + 1))) := Lib.hid (by rw [← lowK_keep (by rw [← hlen.out]; exact hlt) (by rw [← HX.out]; exact lowC_keep (by omega))]; exact HB1.out)
        go_wp2
        go_round
        case rel => exact ⟨k + 1, by go_num, by omega, HB2, HL1⟩
        case measure => simp [intOf]; omega
    · obtain rfl : k = s.size := by omega
      have hcv2 := HB1.out.conv (P := Tryd.prog) Tryd.underlying35 Tryd.underlying5 Tryd.underlying9 C s.size (by rw [lowK_length, ← hlen.out])
      rw [lowK_all (by rw [← hlen.out]; exact Nat.le_refl _)] at hcv2
      go_wp2
      go_ret
      exact ⟨rfl, HL1.out⟩

theorem eqL (a b : List UInt8) : (a == b) = decide (a = b) := by
  by_cases h : a = b
  · subst h; simp
  · rw [decide_eq_false h, beq_eq_false_iff_ne]
    exact h

set_option maxHeartbeats 1000000 in
theorem alike_any (s t : ByteArray) (hs : s.size ≤ 16777216) (ht : t.size ≤ 16777216) (w : World) :
    Calls Tryd.prog 22 #[.string s, .string t] w fun e w' => e = .returned (.bool (decide (lowL s.data.toList = lowL t.data.toList))) ∧ Below w.heap.size w w' := by
  have he := eqL (lowL s.data.toList) (lowL t.data.toList)
  have c1 := fun w => lower_any s hs w
  have c2 := fun w => lower_any t ht w
  generalize lowL s.data.toList = a at he c1 ⊢
  generalize lowL t.data.toList = b at he c2 ⊢
  have HE := Lib.hid he; clear he
  go_enter Tryd.func22, Tryd.ntmps22
  go_wp2_with fail
  go_at_call 20
  refine (c1 _).mono ?_
  rintro e w1 ⟨rfl, hb1⟩
  go_wp2_with fail
  go_at_call 20
  refine (c2 _).mono ?_
  rintro e w2 ⟨rfl, hb2⟩
  go_wp2
  go_ret
  exact ⟨by rw [← HE.out]; rfl, bstep hb1 hb2⟩

set_option maxHeartbeats 1000000 in
theorem refAlike_any (s t : ByteArray) (hs : s.size ≤ 16777216) (ht : t.size ≤ 16777216) (w : World) :
    Calls Tryd.prog 23 #[.string s, .string t] w fun e w' => e = .returned (.bool (decide (lowL s.data.toList = lowL t.data.toList))) ∧ Below w.heap.size w w' := by
  have he := eqL (lowL s.data.toList) (lowL t.data.toList)
  have c1 := fun w => refLower_any s hs w
  have c2 := fun w => refLower_any t ht w
  generalize lowL s.data.toList = a at he c1 ⊢
  generalize lowL t.data.toList = b at he c2 ⊢
  have HE := Lib.hid he; clear he
  go_enter Tryd.func23, Tryd.ntmps23
  go_wp2_with fail
  go_at_call 21
  refine (c1 _).mono ?_
  rintro e w1 ⟨rfl, hb1⟩
  go_wp2_with fail
  go_at_call 21
  refine (c2 _).mono ?_
  rintro e w2 ⟨rfl, hb2⟩
  go_wp2
  go_ret
  exact ⟨by rw [← HE.out]; rfl, bstep hb1 hb2⟩

end Go.Proofs.YtnadnccmlbleoaaDoor
