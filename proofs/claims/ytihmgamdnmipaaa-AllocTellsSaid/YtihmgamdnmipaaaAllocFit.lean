/-
  Which images can be, as the program tells it: any image.
-/
import Derived.Test.YtihmgamdnmipaaaAllocMake
import Derived.BigQuiet
namespace Go.Proofs.Ytihmgamdnmipaaa
open Go.RowKit

/-- A region that draws its order, whose operations read and whose calls leave what lay before: one walk, in the order of the text. -/
theorem regionA {P : Program} {id : Nat} {Q : Exit → Act → World → Prop} {a : Act} {w0 w : World} {l : List Oper} (hC : Below w0.heap.size w0 w) (hm : P.follows .mixedOrders = true) (hB : Region.lexB .any l.toArray = true)
    (h : wpQuiet P l.toArray (fun w' => Below w0.heap.size w0 w') (fun a' => ∀ w', Below w0.heap.size w0 w' → Q .normal a' w') l a) : (Code.region id l.toArray true).wp P Q a w :=
  wp_region_quiet (C := fun w' => Below w0.heap.size w0 w') hm hB hC.drew (by simpa using h)

def CondA (img : List ByteArray) (b : Nat) : Prop := (b < firstA img.length → bitA (blk img 1) b = true) ∧ (img.length ≤ b → bitA (blk img 1) b = false)
theorem fitA_no {img : List ByteArray} (h : ¬ FitA img) : decide (FitA img) = false := decide_eq_false h

set_option maxRecDepth 100000 in
set_option maxHeartbeats 2000000 in
theorem fitA_any (A : Option Addr) (n c : Nat) (img : List ByteArray) (w : World) (h : Reads w w.heap.size 1 A n (encS img)) (hn : n * 16 ≤ 140737488355328) :
    Calls Try.prog 13 #[.slice A n c] w fun e w' => e = .returned (.bool (decide (FitA img))) ∧ Below w.heap.size w w' := by
  have hmx : Try.prog.follows .mixedOrders = true := by kernel_rfl
  have ck := fun W => isCount_any (n : Int) W
  have hl := h.lenS
  by_cases hx : 8 ≤ n ∧ n ≤ 512
  · rw [decide_eq_true (by omega : (8 : Int) ≤ n ∧ (n : Int) ≤ 512)] at ck
    have H := Lib.hid h
    have HL := Lib.hid hl
    obtain ⟨hx1, hx2⟩ := hx
    obtain ⟨b0, o0, rfl, hb0, g0⟩ := h.str (k := 0) (by omega)
    have chd := fun (A : Option Addr) (c : Nat) W => head_any A n c W hx2
    have h0n : 0 < n := by omega
    rw [Nat.add_zero] at g0
    by_cases hh : blk img 0 = superB n
    · have t0 : (!(blk img 0).toList == (superB n).toList) = false := by rw [hh]; simp
      have HH := Lib.hid hh
      have HH0 := Lib.hid hh
      obtain ⟨F, hF⟩ : ∃ F, F = firstA n := ⟨_, rfl⟩
      have cf := fun A c W => first_any A n c (by unfold maxLen; omega) W
      rw [← hF] at cf
      have HF : Hid (F = firstA img.length) := Lib.hid (by rw [hl]; exact hF)
      have hF2 : F ≤ 34 := by have := first_le hx1 hx2; omega
      clear h hl hh hF
      generalize superB n = z at chd t0 HH
      generalize blk img 0 = s0 at g0 t0 HH
      go_enter Try.func13, Try.ntmps13
      go_wp2
      refine regionA (w0 := w) (Below.refl _ _) hmx (by kernel_rfl) ?_
      repeat (first
        | go_big_quiet_skip
        | (go_big_quiet_want; go_big_quiet_op; first
            | go_big_quiet_on
            | (refine ⟨_, fun _ _ => rfl, ?_⟩; go_big_quiet_on)
            | (refine ⟨.string s0, fun w5 hw5 => ?_, ?_⟩
               · rw [(hw5.cell (p := ⟨b0, o0, none⟩) hb0).trans g0]; exact ⟨rfl, rfl⟩
               go_big_quiet_on)
            | (apply Exists.intro
               refine ⟨fun w5 hw5 => ?_, ?_⟩
               · first
                  | (refine (ck _).mono ?_; rintro e w6 ⟨rfl, rfl⟩; exact ⟨rfl, hw5⟩)
                  | (refine (chd _ _ _).mono ?_; rintro e w6 ⟨rfl, hbx⟩; exact ⟨rfl, bstep hw5 hbx⟩)
               go_big_quiet_on)))
      refine wpQuiet_nil ?_
      intro w7 hw7
      have R7 := Lib.hid (And.intro (H.out.step hw7) hw7)
      clear hw7 H
      have hn5 : n ≤ 512 := hx2
      go_wp2
      go_loopg [21] n (fun gk s21 wr => ∃ i : Nat, i ≤ n ∧ n - i ≤ gk ∧ s21 = .int .i64 i ∧ w7 = wr ∧ Hid (∀ k, k < i → (blk img k).size = 128))
      case atStart => exact ⟨0, Nat.zero_le _, by omega, rfl, rfl, Lib.hid fun k hk => absurd hk (Nat.not_lt_zero _)⟩
      case round =>
        obtain ⟨i, hi, hgk, rfl, rfl, J⟩ := hrel
        by_cases hlt : i < n
        · have hil : (i : Int) < (n : Int) := by omega
          obtain ⟨b1, o1, e1, _, g1⟩ := R7.out.1.str hlt
          injection e1 with e1; injection e1 with e1 e2; subst e1; subst e2
          by_cases hs : (blk img i).size = 128
          · have f1 : (((blk img i).size : Int) != 128) = false := by rw [hs]; rfl
            have JN : Hid (∀ k, k < i + 1 → (blk img k).size = 128) := Lib.hid fun k hk => by
              by_cases e : k = i
              · rw [e]; exact hs
              · exact J.out k (by omega)
            clear hs
            go_wp2
            go_roundg (n - (i + 1))
            case measure => omega
            case rel => exact ⟨i + 1, by omega, by omega, by go_num, rfl, JN⟩
          · have f1 : (((blk img i).size : Int) != 128) = true := by simp; omega
            have HNO : Hid (decide (FitA img) = false) := Lib.hid (fitA_no fun hP => hs (hP.2.1 _ (List.mem_of_getElem? (blk_get (by rw [HL.out]; exact hlt)))))
            clear hs
            go_wp2
            go_ret
            rw [HNO.out]
            exact ⟨rfl, R7.out.2⟩
        · have : i = n := by omega
          subst this
          obtain ⟨b1, o1, e1, _, g1⟩ := R7.out.1.str (k := 1) (by omega)
          injection e1 with e1; injection e1 with e1 e2; subst e1; subst e2
          have hm := J.out 1 (by omega)
          obtain ⟨m, hm1⟩ : ∃ m, m = blk img 1 := ⟨_, rfl⟩
          rw [← hm1] at g1 hm
          have HMM := Lib.hid hm1
          have h1n : 1 < i := by omega
          clear hm1 hlt
          go_wp2
          go_loopg [29] 1024 (fun gk s29 wr => ∃ j : Nat, j ≤ 1024 ∧ 1024 - j ≤ gk ∧ s29 = .int .i64 j ∧ w7 = wr ∧ Hid (∀ b, b < j → CondA img b))
          case atStart => exact ⟨0, Nat.zero_le _, by omega, rfl, rfl, Lib.hid fun k hk => absurd hk (Nat.not_lt_zero _)⟩
          case round =>
            obtain ⟨j, hj, hgk, rfl, rfl, J2⟩ := hrel
            by_cases hlt : j < 1024
            · have hjl : (j : Int) < 1024 := by omega
              have ct := isTaken_any m j (by omega) (by omega)
              obtain ⟨t, ht⟩ : ∃ t, t = bitA m j := ⟨_, rfl⟩
              rw [← ht] at ct
              have HT : Hid (bitA (blk img 1) j = t) := Lib.hid (by rw [← HMM.out, ht])
              clear ht
              have YES : CondA img j → Hid (∀ b, b < j + 1 → CondA img b) := fun hc => Lib.hid fun b hb => by
                by_cases e : b = j
                · rw [e]; exact hc
                · exact J2.out b (by omega)
              have NO : ¬ CondA img j → Hid (decide (FitA img) = false) := fun hc => Lib.hid (fitA_no fun hP => hc (hP.2.2.2 j hlt))
              have HFn : F ≤ i := by have := first_le hx1 hx2; have := HF.out; rw [HL.out] at this; omega
              by_cases hjF : j < F
              · have d1 : (j : Int) < (F : Int) := by omega
                have d2 : ¬ (i : Int) ≤ (j : Int) := by omega
                cases t with
                | true =>
                  have JN := YES ⟨fun _ => HT.out, fun h => absurd h (by rw [HL.out]; omega)⟩
                  clear YES NO
                  go_wp2_with (first | (go_at_call 51; refine (ct _).mono ?_; rintro e w8 ⟨rfl, rfl⟩) | (go_at_call 26; refine (cf _ _ _).mono ?_; rintro e w8 ⟨rfl, rfl⟩))
                  go_roundg (1024 - (j + 1))
                  case measure => omega
                  case rel => exact ⟨j + 1, by omega, by omega, by go_num, rfl, JN⟩
                | false =>
                  have HNO := NO (fun h => by have := h.1 (by rw [← HF.out]; exact hjF); rw [HT.out] at this; cases this)
                  clear YES NO
                  go_wp2_with (first | (go_at_call 51; refine (ct _).mono ?_; rintro e w8 ⟨rfl, rfl⟩) | (go_at_call 26; refine (cf _ _ _).mono ?_; rintro e w8 ⟨rfl, rfl⟩))
                  go_ret
                  rw [HNO.out]
                  exact ⟨rfl, R7.out.2⟩
              · have d1 : ¬ (j : Int) < (F : Int) := by omega
                by_cases hjn : i ≤ j
                · have d2 : (i : Int) ≤ (j : Int) := by omega
                  cases t with
                  | true =>
                    have HNO := NO (fun h => by have := h.2 (by rw [HL.out]; exact hjn); rw [HT.out] at this; cases this)
                    clear YES NO
                    go_wp2_with (first | (go_at_call 51; refine (ct _).mono ?_; rintro e w8 ⟨rfl, rfl⟩) | (go_at_call 26; refine (cf _ _ _).mono ?_; rintro e w8 ⟨rfl, rfl⟩))
                    go_ret
                    rw [HNO.out]
                    exact ⟨rfl, R7.out.2⟩
                  | false =>
                    have JN := YES ⟨fun h => absurd h (by rw [← HF.out]; omega), fun _ => HT.out⟩
                    clear YES NO
                    go_wp2_with (first | (go_at_call 51; refine (ct _).mono ?_; rintro e w8 ⟨rfl, rfl⟩) | (go_at_call 26; refine (cf _ _ _).mono ?_; rintro e w8 ⟨rfl, rfl⟩))
                    go_roundg (1024 - (j + 1))
                    case measure => omega
                    case rel => exact ⟨j + 1, by omega, by omega, by go_num, rfl, JN⟩
                · have d2 : ¬ (i : Int) ≤ (j : Int) := by omega
                  have JN := YES ⟨fun h => absurd h (by rw [← HF.out]; omega), fun h => absurd h (by rw [HL.out]; exact hjn)⟩
                  clear YES NO
                  cases t with
                  | true =>
                    go_wp2_with (first | (go_at_call 51; refine (ct _).mono ?_; rintro e w8 ⟨rfl, rfl⟩) | (go_at_call 26; refine (cf _ _ _).mono ?_; rintro e w8 ⟨rfl, rfl⟩))
                    go_roundg (1024 - (j + 1))
                    case measure => omega
                    case rel => exact ⟨j + 1, by omega, by omega, by go_num, rfl, JN⟩
                  | false =>
                    go_wp2_with (first | (go_at_call 51; refine (ct _).mono ?_; rintro e w8 ⟨rfl, rfl⟩) | (go_at_call 26; refine (cf _ _ _).mono ?_; rintro e w8 ⟨rfl, rfl⟩))
                    go_roundg (1024 - (j + 1))
                    case measure => omega
                    case rel => exact ⟨j + 1, by omega, by omega, by go_num, rfl, JN⟩
            · have : j = 1024 := by omega
              subst this
              have HYES : Hid (decide (FitA img) = true) := Lib.hid (decide_eq_true ⟨by rw [HL.out]; exact ⟨hx1, hx2⟩, fun s hs => by
                obtain ⟨k, hk, e⟩ := List.mem_iff_getElem.1 hs
                have h2 := blk_get hk
                rw [List.getElem?_eq_getElem hk, e] at h2
                injection h2 with h2
                rw [h2]
                exact J.out k (by rw [← HL.out]; exact hk), by rw [HL.out]; exact HH0.out, J2.out⟩)
              go_wp2
              go_ret
              rw [HYES.out]
              exact ⟨rfl, R7.out.2⟩
    · have t0 : (!(blk img 0).toList == (superB n).toList) = true := by rw [bytes_other hh]; rfl
      have HNO : Hid (decide (FitA img) = false) := Lib.hid (fitA_no fun hP => hh (by rw [← hl]; exact hP.2.2.1))
      clear h hl hh
      generalize superB n = z at chd t0
      generalize blk img 0 = s0 at g0 t0
      go_enter Try.func13, Try.ntmps13
      go_wp2
      refine regionA (w0 := w) (Below.refl _ _) hmx (by kernel_rfl) ?_
      repeat (first
        | go_big_quiet_skip
        | (go_big_quiet_want; go_big_quiet_op; first
            | go_big_quiet_on
            | (refine ⟨_, fun _ _ => rfl, ?_⟩; go_big_quiet_on)
            | (refine ⟨.string s0, fun w5 hw5 => ?_, ?_⟩
               · rw [(hw5.cell (p := ⟨b0, o0, none⟩) hb0).trans g0]; exact ⟨rfl, rfl⟩
               go_big_quiet_on)
            | (apply Exists.intro
               refine ⟨fun w5 hw5 => ?_, ?_⟩
               · first
                  | (refine (ck _).mono ?_; rintro e w6 ⟨rfl, rfl⟩; exact ⟨rfl, hw5⟩)
                  | (refine (chd _ _ _).mono ?_; rintro e w6 ⟨rfl, hbx⟩; exact ⟨rfl, bstep hw5 hbx⟩)
               go_big_quiet_on)))
      refine wpQuiet_nil ?_
      intro w7 hw7
      go_wp2
      go_ret
      rw [HNO.out]
      exact ⟨rfl, hw7⟩
  · rw [decide_eq_false (by omega : ¬ ((8 : Int) ≤ n ∧ (n : Int) ≤ 512))] at ck
    have HNO : Hid (decide (FitA img) = false) := Lib.hid (fitA_no fun hP => hx (by rw [← hl]; exact hP.1))
    clear h hl hx
    go_enter Try.func13, Try.ntmps13
    go_wp2
    refine regionA (w0 := w) (Below.refl _ _) hmx (by kernel_rfl) ?_
    repeat (first
      | go_big_quiet_skip
      | (go_big_quiet_want; go_big_quiet_op; first
          | go_big_quiet_on
          | (refine ⟨_, fun _ _ => rfl, ?_⟩; go_big_quiet_on)
          | (apply Exists.intro
             refine ⟨fun w5 hw5 => ?_, ?_⟩
             · (refine (ck _).mono ?_; rintro e w6 ⟨rfl, rfl⟩; exact ⟨rfl, hw5⟩)
             go_big_quiet_on)))
    refine wpQuiet_nil ?_
    intro w7 hw7
    go_wp2
    go_ret
    rw [HNO.out]
    exact ⟨rfl, hw7⟩

end Go.Proofs.Ytihmgamdnmipaaa
