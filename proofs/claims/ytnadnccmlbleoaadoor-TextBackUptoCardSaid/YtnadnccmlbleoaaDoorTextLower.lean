/-
  A text with small letters, as the program and as the document make it.
-/
import Derived.WalkSpells
import Derived.WalkLawsBesides
import Derived.Test.YtnadnccmlbleoaaDoorTextLib
import Derived.Test.YtnadnccmlbleoaaDoorTextSmall
namespace Go.Proofs.YtnadnccmlbleoaaDoor
open Go.RowKit

/-- The first k with small letters. -/
def lowK (l : List UInt8) (k : Nat) : List UInt8 := lowL (l.take k) ++ l.drop k
theorem lowK_zero (l : List UInt8) : lowK l 0 = l := by simp [lowK, lowL]
theorem lowK_all {l : List UInt8} {k : Nat} (h : l.length ≤ k) : lowK l k = lowL l := by simp [lowK, List.take_of_length_le h, List.drop_eq_nil_of_le h]
theorem lowK_length (l : List UInt8) (k : Nat) : (lowK l k).length = l.length := by simp [lowK, lowL]; omega
theorem lowK_get {l : List UInt8} {k : Nat} : (lowK l k).getD k 0 = l.getD k 0 := by
  unfold lowK
  rw [List.getD_eq_getElem?_getD, List.getD_eq_getElem?_getD]
  by_cases hk : k < l.length
  · rw [List.getElem?_append_right (by simp [lowL]; omega)]
    simp [lowL, Nat.min_eq_left (Nat.le_of_lt hk)]
  · rw [List.getElem?_eq_none (by simp [lowL]; omega), List.getElem?_eq_none (by omega)]
theorem lowK_set {l : List UInt8} {k : Nat} (hk : k < l.length) : (lowK l k).set k (lowC (l.getD k 0)) = lowK l (k + 1) := by
  unfold lowK
  have e1 : (lowL (l.take k)).length = k := by simp [lowL]; omega
  rw [List.set_append_right k _ (by omega), e1, Nat.sub_self, List.drop_eq_getElem_cons hk, List.set_cons_zero, List.take_succ_eq_append_getElem hk, lowL_append]
  simp [lowL, List.getD_eq_getElem?_getD, hk]

set_option maxRecDepth 100000 in
set_option maxHeartbeats 1000000 in
theorem lower_any (s : ByteArray) (hs : s.size ≤ 16777216) (w : World) :
    Calls Tryd.prog 20 #[.string s] w fun e w' => e = .returned (.string ⟨(lowL s.data.toList).toArray⟩) ∧ Below w.heap.size w w' := by
  have hcv := run_bytes_of_string (P := Tryd.prog) w 9 35 5 s Tryd.underlying9 Tryd.underlying35 Tryd.underlying5
  have hb0 := Byt.of_text w 5 s (grownCap w s.size 0 5)
  have hl0 := Byt.of_text_below w 5 s (grownCap w s.size 0 5)
  generalize hC : grownCap w s.size 0 5 = C at hcv hb0 hl0
  generalize w.drew.alloc (.cells (bytesRow s C) 5 ((bytesRow s C).size, (bytesRow s C).size + 1)) = w1 at hcv hb0 hl0
  generalize hg : w.heap.size = g at hcv hb0 hl0 ⊢
  have HG := Lib.hid hg; clear hg
  have hlen := Lib.hid (bsize s)
  have HB := Lib.hid hb0; have HL := Lib.hid hl0
  clear hb0 hl0 hC
  go_enter Tryd.func20, Tryd.ntmps20
  go_wp2
  clear hcv
  go_loopw [9] (fun p wr => ∃ k : Nat, p = .int .i64 k ∧ k ≤ s.size ∧ Hid (Byt wr g (lowK s.data.toList k)) ∧ Hid (Below g w wr)) (fun p _ => s.size - (intOf p).toNat)
  case atStart => exact ⟨0, rfl, Nat.zero_le _, Lib.hid (by rw [lowK_zero]; exact HB.out), HL⟩
  case round =>
    obtain ⟨k, rfl, hk, HB1, HL1⟩ := hrel
    by_cases hlt : k < s.size
    · have hce := HB1.out.cell k (by rw [lowK_length, ← hlen.out]; exact hlt)
      have hfr := HB1.out.free k (by rw [lowK_length, ← hlen.out]; exact hlt)
      rw [lowK_get] at hce
      obtain ⟨x, hx⟩ : ∃ x, x = s.data.toList.getD k 0 := ⟨_, rfl⟩
      rw [← hx] at hce
      have HX := Lib.hid hx; clear hx
      have hxb := x.toNat_lt
      go_wp2_with (go_at_call 39; refine (small_any _ hxb _).mono ?_; rintro e w' ⟨rfl, rfl⟩)
      have HB2 := Lib.hid (HB1.out.set k (lowC x))
      have HL2 := Lib.hid (HL1.out.setCell (p := ⟨g, k, none⟩) (Nat.le_refl _) (.int .u8 ((lowC x).toNat : Int)))
      rw [HX.out, lowK_set (by rw [← hlen.out]; exact hlt), ← HX.out, lowC_nat] at HB2
      rw [lowC_nat] at HL2
      go_round
      case rel => exact ⟨k + 1, by go_num, by omega, HB2, HL2⟩
      case measure => simp [intOf]; omega
    · obtain rfl : k = s.size := by omega
      have hcv2 := HB1.out.conv (P := Tryd.prog) Tryd.underlying35 Tryd.underlying5 Tryd.underlying9 C s.size (by rw [lowK_length, ← hlen.out])
      rw [lowK_all (by rw [← hlen.out]; exact Nat.le_refl _)] at hcv2
      go_wp2
      go_ret
      exact ⟨rfl, HL1.out⟩

end Go.Proofs.YtnadnccmlbleoaaDoor
