/-
  Which images can be, as the program tells it: any image.
-/
import Derived.Test.YtpdfkakhahfcjaaGreatG03
import Derived.BigQuiet
namespace Go.Proofs.YtpdfkakhahfcjaaGreat
open Go.RowKit

/-- A region that draws its order, whose operations read and whose calls leave what lay before: one walk, in the order of the text. -/
theorem regionA {P : Program} {id : Nat} {Q : Exit → Act → World → Prop} {a : Act} {w0 w : World} {l : List Oper} (hC : Below w0.heap.size w0 w) (hm : P.follows .mixedOrders = true) (hB : Region.lexB .any l.toArray = true)
    (h : wpQuiet P l.toArray (fun w' => Below w0.heap.size w0 w') (fun a' => ∀ w', Below w0.heap.size w0 w' → Q .normal a' w') l a) : (Code.region id l.toArray true).wp P Q a w :=
  wp_region_quiet (C := fun w' => Below w0.heap.size w0 w') hm hB hC.drew (by simpa using h)

def CondA (img : List ByteArray) (b : Nat) : Prop := (b < firstA img.length → bitA (blk img 1) b = true) ∧ (img.length ≤ b → bitA (blk img 1) b = false)
theorem fitA_no {img : List ByteArray} (h : ¬ FitA img) : decide (FitA img) = false := decide_eq_false h

set_option maxRecDepth 100000 in
set_option maxHeartbeats 2000000 in
theorem fitA_any (A : Option Addr) (n c : Nat) (img : List ByteArray) (w : World) (h : Reads w w.heap.size 1 A n (encS img)) (hn : n * 16 ≤ 140737488355328) :
    Calls Tryz.prog 62 #[.slice A n c] w fun e w' => e = .returned (.bool (decide (FitA img))) ∧ Below w.heap.size w w' := by
  have hmx : Tryz.prog.follows .mixedOrders = true := by kernel_rfl
  have ck := fun W => isCount_any (n : Int) W
  have hl := h.lenS
  by_cases hx : 8 ≤ n ∧ n ≤ 512
  · rw [decide_eq_true (by omega : (8 : Int) ≤ n ∧ (n : Int) ≤ 512)] at ck
    have H := Lib.hid h
    have HL := Lib.hid hl
    obtain ⟨hx1, hx2⟩ := hx
    obtain ⟨b0, o0, rfl, hb0, g0⟩ := h.str (k := 0) (by omega)
    have chd := fun (A : Option Addr) (c : Nat) W => head_any A n c W hx2
    have h0n : 0 < n := by omega
    rw [Nat.add_zero] at g0
    by_cases hh : blk img 0 = superB n
    · have t0 : (!(blk img 0).toList == (superB n).toList) = false := by rw [hh]; simp
      have HH := Lib.hid hh
      have HH0 := Lib.hid hh
      obtain ⟨F, hF⟩ : ∃ F, F = firstA n := ⟨_, rfl⟩
      have cf := fun A c W => first_any A n c (by unfold maxLen; omega) W
      rw [← hF] at cf
      have HF : Hid (F = firstA img.length) := Lib.hid (by rw [hl]; exact hF)
      have hF2 : F ≤ 34 := by have := first_le hx1 hx2; omega
      clear h hl hh hF
      generalize superB n = z at chd t0 HH
      generalize blk img 0 = s0 at g0 t0 HH
      go_enter Tryz.func62, Tryz.ntmps62
      go_wp2
      refine regionA (w0 := w) (Below.refl _ _) hmx (by kernel_rfl) ?_
      repeat (first
        | go_big_quiet_skip
        | (go_big_quiet_want; go_big_quiet_op; first
            | go_big_quiet_on
            | (refine ⟨_, fun _ _ => rfl, ?_⟩; go_big_quiet_on)
            | (refine ⟨.string s0, fun w5 hw5 => ?_, ?_⟩
               · rw [(hw5.cell (p := ⟨b0, o0, none⟩) hb0).trans g0]; exact ⟨rfl, rfl⟩
               go_big_quiet_on)
            | (apply Exists.intro
               refine ⟨fun w5 hw5 => ?_, ?_⟩
               · first
                  | (refine (ck _).mono ?_; rintro e w6 ⟨rfl, rfl⟩; exact ⟨rfl, hw5⟩)
                  | (refine (chd _ _ _).mono ?_; rintro e w6 ⟨rfl, hbx⟩; exact ⟨rfl, bstep hw5 hbx⟩)
               go_big_quiet_on)))
      refine wpQuiet_nil ?_
      intro w7 hw7
      have R7 := Lib.hid (And.intro (H.out.step hw7) hw7)
      clear hw7 H
      have hn5 : n ≤ 512 := hx2
      go_wp2
      go_loopg [21] n (fun gk s21 wr => ∃ i : Nat, i ≤ n ∧ n - i ≤ gk ∧ s21 = .int .i64 i ∧ w7 = wr ∧ Hid (∀ k, k < i → (blk img k).size = 128))
      case atStart => exact ⟨0, Nat.zero_le _, by omega, rfl, rfl, Lib.hid fun k hk => absurd hk (Nat.not_lt_zero _)⟩
      case round =>
        obtain ⟨i, hi, hgk, rfl, rfl, J⟩ := hrel
        by_cases hlt : i < n
        · have hil : (i : Int) < (n : Int) := by omega
          obtain ⟨b1, o1, e1, _, g1⟩ := R7.out.1.str hlt
          injection e1 with e1; injection e1 with e1 e2; subst e1; subst e2
          by_cases hs : (blk img i).size = 128
          · have f1 : (((blk img i).size : Int) != 128) = false := by rw [hs]; rfl
            have JN : Hid (∀ k, k < i + 1 → (blk img k).size = 128) := Lib.hid fun k hk => by
              by_cases e : k = i
              · rw [e]; exact hs
              · exact J.out k (by omega)
            clear hs
            go_wp2
            go_roundg (n - (i + 1))
            case measure => omega
            case rel => exact ⟨i + 1, by omega, by omega, by go_num, rfl, JN⟩
          · have f1 : (((blk img i).size : Int) != 128) = true := by simp; omega
            have HNO : Hid (decide (FitA img) = false) := Lib.hid (fitA_no fun hP => hs (hP.2.1 _ (List.mem_of_getElem? (blk_get (by rw [HL.out]; exact hlt)))))
            clear hs
            go_wp2
            go_ret
            rw [HNO.out]
            exact ⟨rfl, R7.out.2⟩
        · have : i = n := by omega
          subst this
          obtain ⟨b1, o1, e1, _, g1⟩ := R7.out.1.str (k := 1) (by omega)
          injection e1 with e1; injection e1 with e1 e2; subst e1; subst e2
          have hm := J.out 1 (by omega)
          obtain ⟨m, hm1⟩ : ∃ m, m = blk img 1 := ⟨_, rfl⟩
          rw [← hm1] at g1 hm
          have HMM := Lib.hid hm1
          have h1n : 1 < i := by omega
          clear hm1 hlt
          go_wp2
          go_loopg [29] 1024 (fun gk s29 wr => ∃ j : Nat, j ≤ 1024 ∧ 1024 - j ≤ gk ∧ s29 = .int .i64 j ∧ w7 = wr ∧ Hid (∀ b, b < j → CondA img b))
          case atStart => exact ⟨0, Nat.zero_le _, by omega, rfl, rfl, Lib.hid fun k hk => absurd hk (Nat.not_lt_zero _)⟩
          case round =>
            obtain ⟨j, hj, hgk, rfl, rfl, J2⟩ := hrel
            by_cases hlt : j < 1024
            · have hjl : (j : Int) < 1024 := by omega
              have ct := isTaken_any m j (by omega) (by omega)
              obtain ⟨t, ht⟩ : ∃ t, t = bitA m j := ⟨_, rfl⟩
              rw [← ht] at ct
              have HT : Hid (bitA (blk img 1) j = t) := Lib.hid (by rw [← HMM.out, ht])
              clear ht
              have YES : CondA img j → Hid (∀ b, b < j + 1 → CondA img b) := fun hc => Lib.hid fun b hb => by
                by_cases e : b = j
                · rw [e]; exact hc
                · exact J2.out b (by omega)
              have NO : ¬ CondA img j → Hid (decide (FitA img) = false) := fun hc => Lib.hid (fitA_no fun hP => hc (hP.2.2.2 j hlt))
              have HFn : F ≤ i := by have := first_le hx1 hx2; have := HF.out; rw [HL.out] at this; omega
              by_cases hjF : j < F
              · have d1 : (j : Int) < (F : Int) := by omega
                have d2 : ¬ (i : Int) ≤ (j : Int) := by omega
                cases t with
                | true =>
                  have JN := YES ⟨fun _ => HT.out, fun h => absurd h (by rw [HL.out]; omega)⟩
                  clear YES NO
                  go_wp2_with (first | (go_at_call 93; refine (ct _).mono ?_; rintro e w8 ⟨rfl, rfl⟩) | (go_at_call 58; refine (cf _ _ _).mono ?_; rintro e w8 ⟨rfl, rfl⟩))
                  go_roundg (1024 - (j + 1))
                  case measure => omega
                  case rel => exact ⟨j + 1, by omega, by omega, by go_num, rfl, JN⟩
                | false =>
                  have HNO := NO (fun h => by have := h.1 (by rw [← HF.out]; exact hjF); rw [HT.out] at this; cases this)
                  clear YES NO
                  go_wp2_with (first | (go_at_call 93; refine (ct _).mono ?_; rintro e w8 ⟨rfl, rfl⟩) | (go_at_call 58; refine (cf _ _ _).mono ?_; rintro e w8 ⟨rfl, rfl⟩))
                  go_ret
                  rw [HNO.out]
                  exact ⟨rfl, R7.out.2⟩
              · have d1 : ¬ (j : Int) < (F : Int) := by omega
                by_cases hjn : i ≤ j
                · have d2 : (i : Int) ≤ (j : Int) := by omega
                  cases t with
                  | true =>
                    have HNO := NO (fun h => by have := h.2 (by rw [HL.out]; exact hjn); rw [HT.out] at this; cases this)
                    clear YES NO
                    go_wp2_with (first | (go_at_call 93; refine (ct _).mono ?_; rintro e w8 ⟨rfl, rfl⟩) | (go_at_call 58; refine (cf _ _ _).mono ?_; rintro e w8 ⟨rfl, rfl⟩))
                    go_ret
                    rw [HNO.out]
                    exact ⟨rfl, R7.out.2⟩
                  | false =>
                    have JN := YES ⟨fun h => absurd h (by rw [← HF.out]; omega), fun _ => HT.out⟩
                    clear YES NO
                    go_wp2_with (first | (go_at_call 93; refine (ct _).mono ?_; rintro e w8 ⟨rfl, rfl⟩) | (go_at_call 58; refine (cf _ _ _).mono ?_; rintro e w8 ⟨rfl, rfl⟩))
                    go_roundg (1024 - (j + 1))
                    case measure => omega
                    case rel => exact ⟨j + 1, by omega, by omega, by go_num, rfl, JN⟩
                · have d2 : ¬ (i : Int) ≤ (j : Int) := by omega
                  have JN := YES ⟨fun h => absurd h (by rw [← HF.out]; omega), fun h => absurd h (by rw [HL.out]; exact hjn)⟩
                  clear YES NO
                  cases t with
                  | true =>
                    go_wp2_with (first | (go_at_call 93; refine (ct _).mono ?_; rintro e w8 ⟨rfl, rfl⟩) | (go_at_call 58; refine (cf _ _ _).mono ?_; rintro e w8 ⟨rfl, rfl⟩))
                    go_roundg (1024 - (j + 1))
                    case measure => omega
                    case rel => exact ⟨j + 1, by omega, by omega, by go_num, rfl, JN⟩
                  | false =>
                    go_wp2_with (first | (go_at_call 93; refine (ct _).mono ?_; rintro e w8 ⟨rfl, rfl⟩) | (go_at_call 58; refine (cf _ _ _).mono ?_; rintro e w8 ⟨rfl, rfl⟩))
                    go_roundg (1024 - (j + 1))
                    case measure => omega
                    case rel => exact ⟨j + 1, by omega, by omega, by go_num, rfl, JN⟩
            · have : j = 1024 := by omega
              subst this
              have HYES : Hid (decide (FitA img) = true) := Lib.hid (decide_eq_true ⟨by rw [HL.out]; exact ⟨hx1, hx2⟩, fun s hs => by
                obtain ⟨k, hk, e⟩ := List.mem_iff_getElem.1 hs
                have h2 := blk_get hk
                rw [List.getElem?_eq_getElem hk, e] at h2
                injection h2 with h2
                rw [h2]
                exact J.out k (by rw [← HL.out]; exact hk), by rw [HL.out]; exact HH0.out, J2.out⟩)
              go_wp2
              go_ret
              rw [HYES.out]
              exact ⟨rfl, R7.out.2⟩
    · have t0 : (!(blk img 0).toList == (superB n).toList) = true := by rw [bytes_other hh]; rfl
      have HNO : Hid (decide (FitA img) = false) := Lib.hid (fitA_no fun hP => hh (by rw [← hl]; exact hP.2.2.1))
      clear h hl hh
      generalize superB n = z at chd t0
      generalize blk img 0 = s0 at g0 t0
      go_enter Tryz.func62, Tryz.ntmps62
      go_wp2
      refine regionA (w0 := w) (Below.refl _ _) hmx (by kernel_rfl) ?_
      repeat (first
        | go_big_quiet_skip
        | (go_big_quiet_want; go_big_quiet_op; first
            | go_big_quiet_on
            | (refine ⟨_, fun _ _ => rfl, ?_⟩; go_big_quiet_on)
            | (refine ⟨.string s0, fun w5 hw5 => ?_, ?_⟩
               · rw [(hw5.cell (p := ⟨b0, o0, none⟩) hb0).trans g0]; exact ⟨rfl, rfl⟩
               go_big_quiet_on)
            | (apply Exists.intro
               refine ⟨fun w5 hw5 => ?_, ?_⟩
               · first
                  | (refine (ck _).mono ?_; rintro e w6 ⟨rfl, rfl⟩; exact ⟨rfl, hw5⟩)
                  | (refine (chd _ _ _).mono ?_; rintro e w6 ⟨rfl, hbx⟩; exact ⟨rfl, bstep hw5 hbx⟩)
               go_big_quiet_on)))
      refine wpQuiet_nil ?_
      intro w7 hw7
      go_wp2
      go_ret
      rw [HNO.out]
      exact ⟨rfl, hw7⟩
  · rw [decide_eq_false (by omega : ¬ ((8 : Int) ≤ n ∧ (n : Int) ≤ 512))] at ck
    have HNO : Hid (decide (FitA img) = false) := Lib.hid (fitA_no fun hP => hx (by rw [← hl]; exact hP.1))
    clear h hl hx
    go_enter Tryz.func62, Tryz.ntmps62
    go_wp2
    refine regionA (w0 := w) (Below.refl _ _) hmx (by kernel_rfl) ?_
    repeat (first
      | go_big_quiet_skip
      | (go_big_quiet_want; go_big_quiet_op; first
          | go_big_quiet_on
          | (refine ⟨_, fun _ _ => rfl, ?_⟩; go_big_quiet_on)
          | (apply Exists.intro
             refine ⟨fun w5 hw5 => ?_, ?_⟩
             · (refine (ck _).mono ?_; rintro e w6 ⟨rfl, rfl⟩; exact ⟨rfl, hw5⟩)
             go_big_quiet_on)))
    refine wpQuiet_nil ?_
    intro w7 hw7
    go_wp2
    go_ret
    rw [HNO.out]
    exact ⟨rfl, hw7⟩

end Go.Proofs.YtpdfkakhahfcjaaGreat

/-
  The document's own small answers on an image.
-/
namespace Go.Proofs.YtpdfkakhahfcjaaGreat
open Go.RowKit

set_option maxRecDepth 100000 in
theorem refCount_any (n : Nat) (hn : n ≤ maxLen) (w : World) : Calls Tryz.prog 51 #[.int .i64 n] w fun e w' => e = .returned (.int .i64 (cntA n : Nat)) ∧ w = w' := by
  unfold maxLen at hn
  go_enter Tryz.func51, Tryz.ntmps51
  go_wp2
  go_ret
  exact ⟨congrArg (fun z => Ending.returned (Value.int .i64 z)) (by unfold cntA; omega), rfl⟩

set_option maxRecDepth 100000 in
theorem refFirst_any (A : Option Addr) (n c : Nat) (hn : n ≤ maxLen) (w : World) : Calls Tryz.prog 22 #[.slice A n c] w fun e w' => e = .returned (.int .i64 (firstA n : Nat)) ∧ w = w' := by
  have ci := fun W => refCount_any n hn W
  have hc : cntA n ≤ 4611686018427387904 := by unfold cntA; unfold maxLen at hn; omega
  have HF := Lib.hid (show firstA n = 2 + cntA n / 4 from rfl)
  have HM := Lib.hid (cnt_mod n)
  generalize cntA n = k at ci hc HF HM
  go_enter Tryz.func22, Tryz.ntmps22
  go_wp2_with (go_at_call 51; refine (ci _).mono ?_; rintro e w1 ⟨rfl, rfl⟩)
  go_ret
  exact ⟨congrArg (fun z => Ending.returned (Value.int .i64 z)) (by rw [HF.out]; have := HM.out; omega), rfl⟩

set_option maxRecDepth 100000 in
theorem refInodes_any (A : Option Addr) (n c : Nat) (hn : n ≤ maxLen) (w : World) : Calls Tryz.prog 17 #[.slice A n c] w fun e w' => e = .returned (.int .i64 (cntA n : Nat)) ∧ w = w' := by
  have ci := fun W => refCount_any n hn W
  generalize cntA n = k at ci ⊢
  go_enter Tryz.func17, Tryz.ntmps17
  go_wp2_with (go_at_call 51; refine (ci _).mono ?_; rintro e w1 ⟨rfl, rfl⟩)
  go_ret
  exact ⟨rfl, rfl⟩

set_option maxRecDepth 100000 in
set_option maxHeartbeats 1000000 in
theorem refOwn_any (A : Option Addr) (n c : Nat) (bs : List ByteArray) (w : World) (h : Reads w w.heap.size 1 A n (encS bs)) (hb : n * 16 ≤ 140737488355328) :
    Calls Tryz.prog 6 #[.slice A n c] w fun e w' => ∃ A2 c2, e = .returned (.slice A2 n c2) ∧ w'.ownsRow w.heap.size 9 1 (.slice A2 n c2) n (encS bs) ∧ Below w.heap.size w w' := by
  obtain ⟨i0, hi0, hz0, hz1, hz2⟩ := info_parts infoS
  have hr := Lib.hid h; clear h
  go_enter Tryz.func6, Tryz.ntmps6
  go_wp2_with (at_builtin; refine wpList_append_reads _ rfl _ _ 22 rfl w.heap.size 9 i0 _ 1 16 Tryz.underlying22 hi0 hz0 hz1 hz2 rfl (by omega) _ 0 [] rfl own_nil _ A n c (encS bs) rfl hr.out (encS_one bs) ?_ ?_ ?_ ?_)
  · simp only [maxLen]; omega
  · rw [Nat.zero_add]; exact hb
  · exact Nat.le_refl _
  intro A2 c2 w1 hown hgrow _
  go_wp2
  go_ret
  refine ⟨_, _, rfl, by simpa using hown, ?_⟩
  exact (Below.refl _ w).grown hgrow (by simp) (by intro k hk; cases hk)

theorem mod8 : ∀ x : Fin 256, ∀ k : Fin 8, ((x.val : Int) / 2 ^ k.val % 2 == 1) = x.val.testBit k.val := by decide +kernel
theorem bit_mod (m : ByteArray) (i : Nat) (hi : i / 8 < m.size) : ((m[i / 8].toNat : Int) / 2 ^ (i % 8) % 2 == 1) = bitA m i := by
  have h := mod8 ⟨m[i / 8].toNat, UInt8.toNat_lt _⟩ ⟨i % 8, by omega⟩
  dsimp only at h
  rw [h]
  unfold bitA byA
  rw [List.getD_eq_getElem?_getD, List.getElem?_eq_getElem (by simpa using hi)]
  rfl

theorem bit_tmod (m : ByteArray) (i : Nat) (hi : i / 8 < m.size) : (((m[i / 8].toNat : Int) / 2 ^ (i % 8)).tmod 2 == 1) = bitA m i := by
  rw [Int.tmod_eq_emod_of_nonneg (Int.ediv_nonneg (by omega) (Int.pow_nonneg (by omega))), bit_mod m i hi]
theorem takenA_no {img : List ByteArray} {i : Int} (h : ¬ (0 ≤ i ∧ i < img.length)) : takenA img i = false := by
  unfold takenA; rw [decide_eq_false h]; rfl
theorem takenA_in {img : List ByteArray} {i : Nat} (h : i < img.length) : takenA img i = bitA (blk img 1) i := by
  unfold takenA; rw [decide_eq_true (by omega), Int.toNat_natCast]; rfl
set_option maxRecDepth 100000 in
set_option maxHeartbeats 1000000 in
theorem refTaken_any (A : Option Addr) (n c : Nat) (img : List ByteArray) (i : Int) (w : World) (h : Reads w w.heap.size 1 A n (encS img)) (hf : MapP img) :
    Calls Tryz.prog 23 #[.slice A n c, .int .i64 i] w fun e w' => e = .returned (.bool (takenA img i)) ∧ w = w' := by
  have hl := h.lenS
  obtain ⟨⟨h2, h5⟩, hm⟩ := hf
  rw [hl] at h2 h5
  by_cases h0 : 0 ≤ i
  · by_cases h1 : i < n
    · obtain ⟨k, rfl⟩ : ∃ k : Nat, i = k := ⟨i.toNat, by omega⟩
      obtain ⟨b, o, rfl, _, g1⟩ := h.str (k := 1) (by omega)
      have hk : k < n := by omega
      have HT := Lib.hid (takenA_in (img := img) (i := k) (by omega))
      generalize blk img 1 = m at g1 hm HT
      have hkm : k / 8 < m.size := by omega
      have HB := Lib.hid (bit_mod m k hkm)
      have h1n : 1 < n := by omega
      clear h hl h0 h1
      go_enter Tryz.func23, Tryz.ntmps23
      go_wp2
      go_ret
      rw [HT.out, ← HB.out]
      exact ⟨rfl, rfl⟩
    · rw [takenA_no (by omega)]
      clear h hl
      go_enter Tryz.func23, Tryz.ntmps23
      go_wp2
      go_ret
      exact ⟨rfl, rfl⟩
  · rw [takenA_no (by omega)]
    clear h hl
    go_enter Tryz.func23, Tryz.ntmps23
    go_wp2
    go_ret
    exact ⟨rfl, rfl⟩

set_option maxRecDepth 100000 in
set_option maxHeartbeats 1000000 in
theorem takenA_any (A : Option Addr) (n c : Nat) (img : List ByteArray) (i : Int) (w : World) (h : Reads w w.heap.size 1 A n (encS img)) (hf : MapP img) :
    Calls Tryz.prog 64 #[.slice A n c, .int .i64 i] w fun e w' => e = .returned (.bool (takenA img i)) ∧ w = w' := by
  have hl := h.lenS
  have cm := fun W hW => mapped_any A n c img W hW hf
  obtain ⟨⟨h2, h5⟩, hm⟩ := hf
  rw [hl] at h2 h5
  by_cases h0 : 0 ≤ i
  · by_cases h1 : i < n
    · obtain ⟨k, rfl⟩ : ∃ k : Nat, i = k := ⟨i.toNat, by omega⟩
      have H := Lib.hid h
      obtain ⟨b, o, rfl, _, g1⟩ := h.str (k := 1) (by omega)
      have hk : k < n := by omega
      have HT := Lib.hid (takenA_in (img := img) (i := k) (by omega))
      generalize blk img 1 = m at g1 hm HT
      have ct := fun W => isTaken_any m k (by omega) (by omega) W
      have h1n : 1 < n := by omega
      clear h hl h0 h1
      go_enter Tryz.func64, Tryz.ntmps64
      go_wp2_with (first | (go_at_call 73; refine (cm _ H.out).mono ?_; rintro e w8 ⟨rfl, rfl⟩) | (go_at_call 93; refine (ct _).mono ?_; rintro e w8 ⟨rfl, rfl⟩))
      go_ret
      rw [HT.out]
      exact ⟨rfl, rfl⟩
    · rw [takenA_no (by omega)]
      have H := Lib.hid h
      clear h hl
      go_enter Tryz.func64, Tryz.ntmps64
      go_wp2_with (go_at_call 73; refine (cm _ H.out).mono ?_; rintro e w8 ⟨rfl, rfl⟩)
      go_ret
      exact ⟨rfl, rfl⟩
  · rw [takenA_no (by omega)]
    clear h hl
    go_enter Tryz.func64, Tryz.ntmps64
    go_wp2
    go_ret
    exact ⟨rfl, rfl⟩

end Go.Proofs.YtpdfkakhahfcjaaGreat

/-
  The document's own bit of a map, set; its block 0; a block of zeros.
-/
namespace Go.Proofs.YtpdfkakhahfcjaaGreat
open Go.RowKit

def keep8 (x : UInt8) (k : Nat) (is : Bool) : UInt8 := if x.toNat.testBit k = is then x else flip8 x k
def setA (m : ByteArray) (i : Nat) (is : Bool) : ByteArray := if bitA m i = is then m else flipA m i
def setI (img : List ByteArray) (i : Nat) (is : Bool) : List ByteArray := img.set 1 (setA (blk img 1) i is)
theorem not8 : ∀ x : Fin 256, ∀ k : Fin 8, bits BinOp.andNot IntKind.u8 (x.val : Int) (2 ^ k.val % 256) = ((keep8 (UInt8.ofNat x.val) k.val false).toNat : Int) := by decide +kernel
theorem or8 : ∀ x : Fin 256, ∀ k : Fin 8, bits BinOp.or IntKind.u8 (x.val : Int) (2 ^ k.val % 256) = ((keep8 (UInt8.ofNat x.val) k.val true).toNat : Int) := by decide +kernel
theorem keep8_twice : ∀ x : Fin 256, ∀ k : Fin 8, keep8 (keep8 (UInt8.ofNat x.val) k.val false) k.val true = keep8 (UInt8.ofNat x.val) k.val true := by decide +kernel
theorem bit_not (x : UInt8) (i : Nat) : bits BinOp.andNot IntKind.u8 (x.toNat : Int) (2 ^ (i % 8) % 256) = ((keep8 x (i % 8) false).toNat : Int) := by
  have := not8 ⟨x.toNat, UInt8.toNat_lt _⟩ ⟨i % 8, by omega⟩
  rwa [show UInt8.ofNat x.toNat = x by simp] at this
theorem bit_or (x : UInt8) (i : Nat) : bits BinOp.or IntKind.u8 (x.toNat : Int) (2 ^ (i % 8) % 256) = ((keep8 x (i % 8) true).toNat : Int) := by
  have := or8 ⟨x.toNat, UInt8.toNat_lt _⟩ ⟨i % 8, by omega⟩
  rwa [show UInt8.ofNat x.toNat = x by simp] at this
theorem keep_twice (x : UInt8) (i : Nat) : keep8 (keep8 x (i % 8) false) (i % 8) true = keep8 x (i % 8) true := by
  have := keep8_twice ⟨x.toNat, UInt8.toNat_lt _⟩ ⟨i % 8, by omega⟩
  rwa [show UInt8.ofNat x.toNat = x by simp] at this
theorem setA_set (m : ByteArray) (i : Nat) (is : Bool) (hi : i / 8 < m.size) : mkB (m.data.toList.set (i / 8) (keep8 (m.data.toList.getD (i / 8) 0) (i % 8) is)) = setA m i is := by
  have hi' : i / 8 < m.data.toList.length := by simpa using hi
  have hb : bitA m i = (m.data.toList.getD (i / 8) 0).toNat.testBit (i % 8) := rfl
  unfold setA keep8
  rw [hb]
  by_cases h : (m.data.toList.getD (i / 8) 0).toNat.testBit (i % 8) = is
  · rw [if_pos h, if_pos h]
    have : m.data.toList.set (i / 8) (m.data.toList.getD (i / 8) 0) = m.data.toList := by
      rw [List.getD_eq_getElem?_getD, List.getElem?_eq_getElem hi']
      exact List.set_getElem_self _
    rw [this]
    rfl
  · rw [if_neg h, if_neg h, flipA_set m i hi]
theorem setA_size (m : ByteArray) (i : Nat) (is : Bool) : (setA m i is).size = m.size := by
  unfold setA; split
  · rfl
  · exact flipA_size m i
theorem setA_yes {m : ByteArray} {i : Nat} (h : bitA m i = false) : setA m i true = flipA m i := by unfold setA; rw [h]; rfl
theorem setA_no {m : ByteArray} {i : Nat} (h : bitA m i = true) : setA m i false = flipA m i := by unfold setA; rw [h]; rfl

set_option maxRecDepth 100000 in
set_option maxHeartbeats 2000000 in
theorem refSet_any (A : Option Addr) (n c : Nat) (img : List ByteArray) (i : Nat) (is : Bool) (w : World) (h : Reads w w.heap.size 1 A n (encS img)) (hf : MapP img) (hi : i < 1024) :
    Calls Tryz.prog 75 #[.slice A n c, .int .i64 i, .bool is] w fun e w' => ∃ g c2, e = .returned (.slice (some ⟨g, 0, none⟩) n c2) ∧ OwI w' w.heap.size g n c2 (setI img i is) ∧ Below w.heap.size w w' := by
  have hl := h.lenS
  obtain ⟨⟨h2, h5⟩, hmm⟩ := hf
  rw [hl] at h2 h5
  have H := Lib.hid h
  obtain ⟨b, o, rfl, hbo, g1⟩ := h.str (k := 1) (by omega)
  obtain ⟨m, hm⟩ : ∃ m, m = blk img 1 := ⟨_, rfl⟩
  rw [← hm] at g1 hmm
  have HM := Lib.hid hm
  clear hm h hl
  have him : i / 8 < m.size := by omega
  have hcv := run_bytes_of_string (P := Tryz.prog) w 9 53 5 m Tryz.underlying9 Tryz.underlying53 Tryz.underlying5
  have hb0 := Byt.of_text w 5 m (grownCap w m.size 0 5)
  have hl0 := Byt.of_text_below w 5 m (grownCap w m.size 0 5)
  generalize w.drew.alloc (.cells (bytesRow m (grownCap w m.size 0 5)) 5 ((bytesRow m (grownCap w m.size 0 5)).size, (bytesRow m (grownCap w m.size 0 5)).size + 1)) = w1 at hcv hb0 hl0
  have hlen : m.data.toList.length = m.size := by simp
  have hce := hb0.cell (i / 8) (by omega)
  have hfr := hb0.free (i / 8) (by omega)
  have HB := Lib.hid (And.intro hb0 hl0)
  have HS := Lib.hid (setA_set m i is him)
  obtain ⟨x, hx⟩ : ∃ x, x = m.data.toList.getD (i / 8) 0 := ⟨_, rfl⟩
  rw [← hx] at hce HS
  have HL := Lib.hid hlen
  have hm2 : m.size ≤ 1099511627776 := by omega
  have h1n : 1 < n := by omega
  clear hb0 hl0 hlen hx hmm
  go_enter Tryz.func75, Tryz.ntmps75
  go_wp2
  go_region
  rw [bit_not]
  have hs1 := (HB.out.1.set (i / 8) (keep8 x (i % 8) false)).drew
  have hl1 : Below w.heap.size w (w1.setCell ⟨w.heap.size, i / 8, none⟩ (.int .u8 ((keep8 x (i % 8) false).toNat : Int))).drew := ((HB.out.2.setCell (p := ⟨w.heap.size, i / 8, none⟩) (Nat.le_refl _) _)).drew
  generalize (w1.setCell ⟨w.heap.size, i / 8, none⟩ (.int .u8 ((keep8 x (i % 8) false).toNat : Int))).drew = w2 at hs1 hl1 ⊢
  have hce2 := hs1.cell (i / 8) (by rw [List.length_set]; have := HL.out; omega)
  have hfr2 := hs1.free (i / 8) (by rw [List.length_set]; have := HL.out; omega)
  rw [show (m.data.toList.set (i / 8) (keep8 x (i % 8) false)).getD (i / 8) 0 = keep8 x (i % 8) false by rw [List.getD_eq_getElem?_getD, List.getElem?_set, if_pos rfl, if_pos (by have := HL.out; omega)]; rfl] at hce2
  have HB2 := Lib.hid (And.intro hs1 hl1)
  clear hs1 hl1 hce hfr hcv HB
  cases is with
  | false =>
    have R2 := Lib.hid (H.out.step HB2.out.2)
    have hr2 := refOwn_any _ n c img _ R2.out (by omega)
    go_wp2_with fail
    refine hr2.mono ?_
    rintro e w5 ⟨A5, c5, rfl, ho5, hb5⟩
    obtain ⟨g, rfl, hO⟩ := OwI.of ho5 (by omega)
    have O5 := Lib.hid (show OwI w5 w.heap.size g n c5 img from ⟨own_base hO.own HB2.out.2.size, hO.pos⟩)
    have B5 := Lib.hid (HB2.out.2.trans (hb5.mono HB2.out.2.size))
    have hcv2 := (HB2.out.1.step hb5).conv (P := Tryz.prog) Tryz.underlying53 Tryz.underlying5 Tryz.underlying9 (grownCap w m.size 0 5) m.size (by rw [List.length_set]; exact HL.out)
    rw [HS.out] at hcv2
    have c1 := O5.out.cell 1 h1n
    have f1 := O5.out.free 1
    have hE : Hid (img.set 1 (setA m i false) = setI img i false) := Lib.hid (by unfold setI; rw [← HM.out])
    have hset := O5.out.set 1 (setA m i false)
    rw [hE.out] at hset
    have HF := Lib.hid (And.intro hset (O5.out.below_set 1 (.string (setA m i false)) (Nat.le_refl _) B5.out))
    clear hO ho5 hb5 hr2 hset hce2 hfr2
    go_wp2
    go_ret
    exact ⟨g, c5, rfl, HF.out⟩
  | true =>
    go_wp2
    go_region
    rw [bit_or, keep_twice]
    have hs1 := (HB2.out.1.set (i / 8) (keep8 x (i % 8) true)).drew
    rw [List.set_set] at hs1
    have hl1 : Below w.heap.size w (w2.setCell ⟨w.heap.size, i / 8, none⟩ (.int .u8 ((keep8 x (i % 8) true).toNat : Int))).drew := ((HB2.out.2.setCell (p := ⟨w.heap.size, i / 8, none⟩) (Nat.le_refl _) _)).drew
    generalize (w2.setCell ⟨w.heap.size, i / 8, none⟩ (.int .u8 ((keep8 x (i % 8) true).toNat : Int))).drew = w3 at hs1 hl1 ⊢
    clear HB2
    have HB2 := Lib.hid (And.intro hs1 hl1)
    clear hs1 hl1
    have R2 := Lib.hid (H.out.step HB2.out.2)
    have hr2 := refOwn_any _ n c img _ R2.out (by omega)
    go_wp2_with fail
    refine hr2.mono ?_
    rintro e w5 ⟨A5, c5, rfl, ho5, hb5⟩
    obtain ⟨g, rfl, hO⟩ := OwI.of ho5 (by omega)
    have O5 := Lib.hid (show OwI w5 w.heap.size g n c5 img from ⟨own_base hO.own HB2.out.2.size, hO.pos⟩)
    have B5 := Lib.hid (HB2.out.2.trans (hb5.mono HB2.out.2.size))
    have hcv2 := (HB2.out.1.step hb5).conv (P := Tryz.prog) Tryz.underlying53 Tryz.underlying5 Tryz.underlying9 (grownCap w m.size 0 5) m.size (by rw [List.length_set]; exact HL.out)
    rw [HS.out] at hcv2
    have c1 := O5.out.cell 1 h1n
    have f1 := O5.out.free 1
    have hE : Hid (img.set 1 (setA m i true) = setI img i true) := Lib.hid (by unfold setI; rw [← HM.out])
    have hset := O5.out.set 1 (setA m i true)
    rw [hE.out] at hset
    have HF := Lib.hid (And.intro hset (O5.out.below_set 1 (.string (setA m i true)) (Nat.le_refl _) B5.out))
    clear hO ho5 hb5 hr2 hset hce2 hfr2
    go_wp2
    go_ret
    exact ⟨g, c5, rfl, HF.out⟩

end Go.Proofs.YtpdfkakhahfcjaaGreat

/-
  Blocks taken and given back, as plain lists.
-/
namespace Go.Proofs.YtpdfkakhahfcjaaGreat
open Go.RowKit

theorem took_snoc (img : List ByteArray) (L : List Nat) (i : Nat) : tookA img (L ++ [i]) = take1A (tookA img L) i := by simp [tookA]
theorem blk_set_self {c : List ByteArray} {i : Nat} {s : ByteArray} (h : i < c.length) : blk (c.set i s) i = s := by
  unfold blk
  rw [List.getD_eq_getElem?_getD, List.getElem?_set, if_pos rfl, if_pos h]; rfl
theorem blk_set_ne {c : List ByteArray} {i j : Nat} {s : ByteArray} (h : i ≠ j) : blk (c.set i s) j = blk c j := by
  unfold blk
  rw [List.getD_eq_getElem?_getD, List.getElem?_set, if_neg h, List.getD_eq_getElem?_getD]
theorem turn1_length (c : List ByteArray) (i : Nat) : (turn1A c i).length = c.length := by simp [turn1A]
theorem take1_length (c : List ByteArray) (i : Nat) : (take1A c i).length = c.length := by simp [take1A, turn1_length]
theorem turn1_map {c : List ByteArray} (h : 2 ≤ c.length) (i : Nat) : blk (turn1A c i) 1 = flipA (blk c 1) i := blk_set_self (by omega)
theorem take1_map {c : List ByteArray} (h : 2 ≤ c.length) {i : Nat} (hi : 2 ≤ i) : blk (take1A c i) 1 = flipA (blk c 1) i := by
  unfold take1A; rw [blk_set_ne (by omega), turn1_map h]
theorem turn1_MapP {c : List ByteArray} (h : MapP c) (i : Nat) : MapP (turn1A c i) := ⟨by rw [turn1_length]; exact h.1, by rw [turn1_map (by have := h.1; omega), flipA_size]; exact h.2⟩
theorem take1_MapP {c : List ByteArray} (h : MapP c) {i : Nat} (hi : 2 ≤ i) : MapP (take1A c i) := ⟨by rw [take1_length]; exact h.1, by rw [take1_map (by have := h.1; omega) hi, flipA_size]; exact h.2⟩
theorem took_MapP {img : List ByteArray} (h : MapP img) : ∀ (L : List Nat), (∀ i ∈ L, 2 ≤ i) → MapP (tookA img L) ∧ (tookA img L).length = img.length ∧ blk (tookA img L) 1 = L.foldl flipA (blk img 1) := by
  intro L
  induction L generalizing img with
  | nil => intro _; exact ⟨h, rfl, rfl⟩
  | cons i L ih =>
    intro hL
    have h2 := ih (take1_MapP h (hL i (by simp))) (fun j hj => hL j (by simp [hj]))
    rw [show tookA img (i :: L) = tookA (take1A img i) L from rfl]
    refine ⟨h2.1, h2.2.1.trans (take1_length _ _), ?_⟩
    rw [h2.2.2, take1_map (by have := h.1; omega) (hL i (by simp))]
    rfl
theorem fold_size (m : ByteArray) : ∀ (L : List Nat), (L.foldl flipA m).size = m.size := by
  intro L
  induction L generalizing m with
  | nil => rfl
  | cons i L ih => rw [List.foldl_cons, ih, flipA_size]
theorem fold_bit : ∀ (L : List Nat) (m : ByteArray), L.Nodup → (∀ i ∈ L, i / 8 < m.size) → ∀ j, bitA (L.foldl flipA m) j = if j ∈ L then !bitA m j else bitA m j := by
  intro L
  induction L with
  | nil => intro m _ _ j; simp
  | cons i L ih =>
    intro m hn hL j
    rw [List.foldl_cons, ih _ (List.nodup_cons.1 hn).2 (fun k hk => by rw [flipA_size]; exact hL k (by simp [hk])) j, bit_flip _ _ _ (hL i (by simp))]
    have hi := (List.nodup_cons.1 hn).1
    by_cases h : j = i
    · subst h
      rw [if_neg hi, if_pos rfl, if_pos (by simp)]
    · by_cases h2 : j ∈ L
      · rw [if_pos h2, if_neg h, if_pos (by simp [h2])]
      · rw [if_neg h2, if_neg h, if_neg (by simp [h, h2])]
theorem freeTo_nodup (img : List ByteArray) (i : Nat) : (freeTo img i).Nodup := by
  unfold freeTo; exact (List.nodup_range).filter _
theorem freeTo_lt (img : List ByteArray) (i : Nat) : (freeTo img i).Pairwise (· < ·) := by
  unfold freeTo; exact (List.pairwise_lt_range).filter _
theorem setI_turn {c : List ByteArray} {i : Nat} (h : bitA (blk c 1) i = false) : setI c i true = turn1A c i := by unfold setI turn1A; rw [setA_yes h]
theorem setI_back {c : List ByteArray} {i : Nat} (h : bitA (blk c 1) i = true) : setI c i false = turn1A c i := by unfold setI turn1A; rw [setA_no h]
/-- While blocks are taken: those below i are. -/
theorem took_bit {img : List ByteArray} (h : MapP img) {L : List Nat} (hL : ∀ k ∈ L, 2 ≤ k ∧ k < 1024) (hn : L.Nodup) (j : Nat) : bitA (blk (tookA img L) 1) j = if j ∈ L then !bitA (blk img 1) j else bitA (blk img 1) j := by
  rw [(took_MapP h L (fun k hk => (hL k hk).1)).2.2]
  exact fold_bit L _ hn (fun k hk => by rw [h.2]; have := (hL k hk).2; omega) j
theorem free_in {img : List ByteArray} (h : MapP img) {i k : Nat} (hk : k ∈ freeTo img i) (hi : i ≤ img.length) : 2 ≤ k ∧ k < 1024 := by
  have := freeTo_mem.1 hk
  have := first_le h.1.1 h.1.2
  have := h.1
  omega
theorem free_took_bit {img : List ByteArray} (h : MapP img) {i : Nat} (hi : i ≤ img.length) (j : Nat) (hj : i ≤ j) : bitA (blk (tookA img (freeTo img i)) 1) j = bitA (blk img 1) j := by
  rw [took_bit h (fun k hk => free_in h hk hi) (freeTo_nodup _ _), if_neg (fun hm => by have := (freeTo_mem.1 hm).1; omega)]
theorem free_eq {img : List ByteArray} (n i : Nat) (hi : i ≤ img.length) (hn : n ≤ (freeA img).length) (hl : (freeTo img i).length ≤ n) (hx : i = img.length ∨ (freeTo img i).length = n) : freeTo img i = (freeA img).take n := by
  have hp : freeTo img i <+: freeA img := freeTo_pre hi
  have e : (freeTo img i).length = n := by
    rcases hx with h | h
    · subst h; unfold freeA at hn; omega
    · exact h
  rw [← e]
  exact (List.prefix_iff_eq_take.1 hp)

/-- An image with some of its free blocks taken can be. -/
theorem took_fit {img : List ByteArray} (h : FitA img) {n : Nat} : FitA (tookA img ((freeA img).take n)) := by
  have hm := h.map
  have hmem : ∀ k ∈ (freeA img).take n, firstA img.length ≤ k ∧ k < img.length ∧ bitA (blk img 1) k = false := fun k hk => by
    have := freeTo_mem.1 (List.mem_of_mem_take hk)
    exact ⟨this.2.1, this.1, this.2.2⟩
  have hf := first_le h.1.1 h.1.2
  have hin : ∀ k ∈ (freeA img).take n, 2 ≤ k ∧ k < 1024 := fun k hk => by have := hmem k hk; have := h.1; omega
  have hnd : ((freeA img).take n).Nodup := (freeTo_nodup img img.length).sublist (List.take_sublist _ _)
  have ht := took_MapP hm ((freeA img).take n) (fun k hk => (hin k hk).1)
  have hb := took_bit hm hin hnd
  generalize (freeA img).take n = L at hmem hin hnd ht hb
  have hblk : ∀ (L : List Nat) (c : List ByteArray), (∀ k ∈ L, 3 ≤ k) → (∀ s ∈ c, s.size = 128) → 2 ≤ c.length → (∀ s ∈ tookA c L, s.size = 128) ∧ blk (tookA c L) 0 = blk c 0 := by
    intro L
    induction L with
    | nil => intro c _ hc _; exact ⟨hc, rfl⟩
    | cons i L ih =>
      intro c hL hc h2
      have hc2 : ∀ s ∈ take1A c i, s.size = 128 := by
        intro s hs
        rcases List.mem_or_eq_of_mem_set hs with hs | rfl
        · rcases List.mem_or_eq_of_mem_set hs with hs | rfl
          · exact hc s hs
          · rw [flipA_size]; exact hc _ (List.mem_of_getElem? (blk_get (by omega)))
        · exact zeroB_size
      have := ih (take1A c i) (fun k hk => hL k (by simp [hk])) hc2 (by rw [take1_length]; exact h2)
      refine ⟨this.1, this.2.trans ?_⟩
      unfold take1A turn1A
      rw [blk_set_ne (by have := hL i (by simp); omega), blk_set_ne (by omega)]
  have h3 := hblk L img (fun k hk => by have := hmem k hk; omega) h.2.1 (by have := h.1; omega)
  refine ⟨by rw [ht.2.1]; exact h.1, h3.1, by rw [h3.2, ht.2.1]; exact h.2.2.1, fun b hb1 => ?_⟩
  rw [ht.2.1, hb]
  have := h.2.2.2 b hb1
  by_cases hm2 : b ∈ L
  · have h4 := hmem b hm2
    rw [if_pos hm2]
    exact ⟨fun hlt => by omega, fun hge => by omega⟩
  · rw [if_neg hm2]; exact this
theorem took_free {img : List ByteArray} (h : FitA img) {n : Nat} (_hn : n ≤ (freeA img).length) : (freeA (tookA img ((freeA img).take n))).length = (freeA img).length - n := by
  have hm := h.map
  have hf := first_le h.1.1 h.1.2
  have hin : ∀ k ∈ (freeA img).take n, 2 ≤ k ∧ k < 1024 := fun k hk => free_in hm (List.mem_of_mem_take hk) (Nat.le_refl _)
  have hnd : ((freeA img).take n).Nodup := (freeTo_nodup img img.length).sublist (List.take_sublist _ _)
  have ht := took_MapP hm ((freeA img).take n) (fun k hk => (hin k hk).1)
  have hb := took_bit hm hin hnd
  have e : freeA (tookA img ((freeA img).take n)) = (freeA img).filter (fun k => decide (k ∉ (freeA img).take n)) := by
    unfold freeA at hb ⊢
    unfold freeTo at hb ⊢
    rw [List.filter_filter]
    unfold freeA freeTo at ht
    rw [ht.2.1]
    refine List.filter_congr fun k _ => ?_
    rw [hb k]
    by_cases hk : k ∈ ((List.range img.length).filter fun k => decide (firstA img.length ≤ k) && !bitA (blk img 1) k).take n
    · have h2 := (List.mem_filter.1 (List.mem_of_mem_take hk)).2
      rw [if_pos hk]
      simp only [Bool.and_eq_true, Bool.not_eq_true'] at h2
      simp [hk, h2.2]
    · rw [if_neg hk]; simp [hk]
  rw [e]
  have hsplit : (freeA img).filter (fun k => decide (k ∉ (freeA img).take n)) = (freeA img).drop n := by
    have hnd2 : (freeA img).Nodup := freeTo_nodup _ _
    generalize freeA img = F at hnd2
    have h1 : (F.take n).filter (fun k => decide (k ∉ F.take n)) = [] := by
      rw [List.filter_eq_nil_iff]
      intro k hk; simp [hk]
    have h2 : (F.drop n).filter (fun k => decide (k ∉ F.take n)) = F.drop n := by
      rw [List.filter_eq_self]
      intro k hk
      rw [← List.take_append_drop n F] at hnd2
      have := (List.nodup_append.1 hnd2).2.2
      simp only [decide_eq_true_eq]
      exact fun h3 => this k h3 k hk rfl
    have h3 : F.filter (fun k => decide (k ∉ F.take n)) = (F.take n ++ F.drop n).filter (fun k => decide (k ∉ F.take n)) := by rw [List.take_append_drop]
    rw [h3, List.filter_append, h1, h2]; rfl
  rw [hsplit, List.length_drop]
/-- All that was taken, given back. -/
theorem gave_took {c : List ByteArray} (h : MapP c) : ∀ (L : List Nat), L.Nodup → (∀ k ∈ L, k < 1024 ∧ bitA (blk c 1) k = true) → ∃ c2, gaveA c (L.map fun k : Nat => (k : Int)) = some c2 ∧ c2 = c.set 1 (L.foldl flipA (blk c 1)) := by
  intro L
  induction L generalizing c with
  | nil =>
    intro _ _
    refine ⟨c, rfl, ?_⟩
    rw [List.foldl_nil]
    refine (List.ext_getElem? fun j => ?_)
    rw [List.getElem?_set]
    by_cases hj : 1 = j
    · subst hj
      rw [if_pos rfl, if_pos (by have := h.1; omega)]
      exact blk_get (by have := h.1; omega)
    · rw [if_neg hj]
  | cons i L ih =>
    intro hn hL
    have hi := hL i (by simp)
    have hi8 : i / 8 < (blk c 1).size := by rw [h.2]; omega
    obtain ⟨c2, h2, h3⟩ := ih (turn1_MapP h i) (List.nodup_cons.1 hn).2 (fun k hk => ⟨(hL k (by simp [hk])).1, by
      rw [turn1_map (by have := h.1; omega), bit_flip _ _ _ hi8, if_neg (show ¬ k = i from fun e => (List.nodup_cons.1 hn).1 (by rw [← e]; exact hk))]
      exact (hL k (by simp [hk])).2⟩)
    refine ⟨c2, ?_, ?_⟩
    · rw [List.map_cons, gaveA, Int.toNat_natCast, if_pos hi.2]
      exact h2
    · rw [h3, turn1_map (by have := h.1; omega)]
      unfold turn1A
      rw [List.set_set]; rfl
theorem fold_twice (m : ByteArray) (L : List Nat) (hn : L.Nodup) (hL : ∀ i ∈ L, i / 8 < m.size) : L.foldl flipA (L.foldl flipA m) = m := by
  refine ext_bits (by rw [fold_size, fold_size]) fun j _ => ?_
  rw [fold_bit L _ hn (fun i hi => by rw [fold_size]; exact hL i hi), fold_bit L m hn hL]
  by_cases h : j ∈ L <;> simp [h]

end Go.Proofs.YtpdfkakhahfcjaaGreat
