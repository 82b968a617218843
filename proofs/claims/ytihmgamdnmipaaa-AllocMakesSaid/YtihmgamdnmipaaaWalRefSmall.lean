/-
  The reference's comparisons of texts and of numbers.
-/
import Derived.Test.YtihmgamdnmipaaaWalChanged
import Derived.Deep.QuietTactic
import Derived.BigQuiet
namespace Go.Proofs.Ytihmgamdnmipaaa
open Go.RowKit

theorem changedL_zero {a b : List ByteArray} (h : a.length = b.length) : (changedL a b).length = 0 ↔ a = b := by
  unfold changedL
  rw [List.length_eq_zero_iff, List.filter_eq_nil_iff]
  constructor
  · intro hall
    refine List.ext_getElem? fun i => ?_
    by_cases hi : i < a.length
    · have := hall i (List.mem_range.2 (by omega))
      simpa using this
    · rw [List.getElem?_eq_none (by omega), List.getElem?_eq_none (by omega)]
  · rintro rfl i _
    simp

set_option maxRecDepth 100000 in
set_option maxHeartbeats 1000000 in
theorem refTexts_any (A A' : Option Addr) (n c m c' : Nat) (a b : List ByteArray) (w : World) (ha : Reads w w.heap.size 1 A n (encS a)) (hb : Reads w w.heap.size 1 A' m (encS b)) (hn : n * 16 ≤ 140737488355328) (hm : m * 16 ≤ 140737488355328) :
    Calls Try.prog 12 #[.slice A n c, .slice A' m c'] w fun e w' => e = .returned (.bool (decide (a = b))) ∧ Below w.heap.size w w' := by
  have hla := ha.lenS
  have hlb := hb.lenS
  by_cases hnm : n = m
  · have ht : ((n : Int) == (m : Int)) = true := by rw [hnm]; exact beq_self_eq_true _
    have cc := refChanged_any A A' n c m c' a b w ha hb hn hm
    have HZ := Lib.hid (changedL_zero (a := a) (b := b) (by omega))
    obtain ⟨k, hk⟩ : ∃ k, k = (changedL a b).length := ⟨_, rfl⟩
    rw [← hk] at cc HZ
    by_cases hk0 : k = 0
    · have HD : Hid (decide (a = b) = true) := Lib.hid (decide_eq_true (HZ.out.1 hk0))
      rw [HD.out]
      have hk1 : ((k : Int) == 0) = true := by rw [hk0]; rfl
      clear ha hb hla hlb hnm hk hk0
      go_enter Try.func12, Try.ntmps12
      go_wp2_with (go_at_call 50; refine cc.mono ?_; rintro e w1 ⟨A2, c2, rfl, ho1, hb1⟩)
      go_ret
      exact ⟨rfl, hb1⟩
    · have HD : Hid (decide (a = b) = false) := Lib.hid (decide_eq_false (fun e => hk0 (HZ.out.2 e)))
      rw [HD.out]
      have hk1 : ((k : Int) == 0) = false := by rw [beq_eq_false_iff_ne]; omega
      clear ha hb hla hlb hnm hk
      go_enter Try.func12, Try.ntmps12
      go_wp2_with (go_at_call 50; refine cc.mono ?_; rintro e w1 ⟨A2, c2, rfl, ho1, hb1⟩)
      go_ret
      exact ⟨rfl, hb1⟩
  · have ht : ((n : Int) == (m : Int)) = false := by rw [beq_eq_false_iff_ne]; omega
    have HD : Hid (decide (a = b) = false) := Lib.hid (decide_eq_false (fun e => hnm (by rw [← hla, ← hlb, e])))
    rw [HD.out]
    clear ha hb hla hlb
    go_enter Try.func12, Try.ntmps12
    go_wp2
    go_ret
    exact ⟨rfl, Below.refl _ _⟩

set_option maxRecDepth 100000 in
set_option maxHeartbeats 1000000 in
theorem refInts_any (A A' : Option Addr) (n c m c' : Nat) (a b : List Nat) (w : World) (ha : Reads w w.heap.size 1 A n (encN a)) (hb : Reads w w.heap.size 1 A' m (encN b)) (hn : n ≤ 17592186044416) (hm : m ≤ 17592186044416) :
    Calls Try.prog 21 #[.slice A n c, .slice A' m c'] w fun e w' => e = .returned (.bool (decide (a = b))) ∧ ∃ q, w' = w.drewN q := by
  have HA := Lib.hid ha
  have HB := Lib.hid hb
  have HL := Lib.hid (And.intro ha.lenN hb.lenN)
  clear ha hb
  by_cases hnm : n = m
  · subst hnm
    have ht : ((n : Int) != (n : Int)) = false := by simp
    obtain ⟨r, hr⟩ : ∃ r, r = decide (a = b) := ⟨_, rfl⟩
    rw [← hr]
    have HR := Lib.hid hr
    clear hr
    go_enter Try.func21, Try.ntmps21
    go_wp2
    go_loopg [5] n (fun g s5 wr => ∃ i q : Nat, i ≤ n ∧ n - i ≤ g ∧ s5 = .int .i64 i ∧ w.drewN q = wr ∧ Hid (∀ k, k < i → a.getD k 0 = b.getD k 0))
    case atStart => exact ⟨0, 0, Nat.zero_le _, by omega, rfl, rfl, Lib.hid fun k hk => absurd hk (Nat.not_lt_zero _)⟩
    case round =>
      obtain ⟨i, q, hi, hg, rfl, rfl, J⟩ := hrel
      by_cases hlt : i < n
      · have hin : (i : Int) < (n : Int) := by omega
        obtain ⟨b1, o1, rfl, _, g1⟩ := HA.out.nat hlt
        obtain ⟨b2, o2, rfl, _, g2⟩ := HB.out.nat hlt
        by_cases hxy : a.getD i 0 = b.getD i 0
        · have JN : Hid (∀ k, k < i + 1 → a.getD k 0 = b.getD k 0) := Lib.hid fun k hk => by
            by_cases e : k = i
            · rw [e]; exact hxy
            · exact J.out k (by omega)
          rw [← hxy] at g2
          generalize a.getD i 0 = x at g1 g2
          have hx : ((x : Int) != (x : Int)) = false := by simp
          clear hxy
          go_wp2_with fail
          go_quiet (fail)
          go_wp2
          go_roundg (n - (i + 1))
          case measure => omega
          case rel => exact ⟨i + 1, q + nq, by omega, by omega, by go_num, rfl, JN⟩
        · have HE : Hid (r = false) := Lib.hid (HR.out.trans (decide_eq_false (fun e => hxy (by rw [e]))))
          have hx : (((a.getD i 0 : Nat) : Int) != ((b.getD i 0 : Nat) : Int)) = true := by simp only [bne_iff_ne, ne_eq]; omega
          generalize a.getD i 0 = x at g1 hx
          generalize b.getD i 0 = y at g2 hx
          clear hxy
          go_wp2_with fail
          go_quiet (fail)
          go_wp2
          go_ret
          rw [HE.out]
          exact ⟨rfl, q + nq, World.drewN_drewN _ _ _⟩
      · have : i = n := by omega
        subst this
        have HE : Hid (r = true) := Lib.hid (HR.out.trans (decide_eq_true (by
          refine List.ext_getElem? fun k => ?_
          by_cases hk : k < i
          · have := J.out k hk
            rw [List.getD_eq_getElem?_getD, List.getD_eq_getElem?_getD] at this
            rw [List.getElem?_eq_getElem (by rw [HL.out.1]; exact hk), List.getElem?_eq_getElem (by rw [HL.out.2]; exact hk)] at this ⊢
            simpa using this
          · rw [List.getElem?_eq_none (by rw [HL.out.1]; omega), List.getElem?_eq_none (by rw [HL.out.2]; omega)])))
        go_wp2
        go_ret
        rw [HE.out]
        exact ⟨rfl, q, rfl⟩
  · have ht : ((n : Int) != (m : Int)) = true := by simp only [bne_iff_ne, ne_eq]; omega
    have HD : Hid (decide (a = b) = false) := Lib.hid (decide_eq_false (fun e => hnm (by rw [← HL.out.1, ← HL.out.2, e])))
    rw [HD.out]
    go_enter Try.func21, Try.ntmps21
    go_wp2
    go_ret
    exact ⟨rfl, 0, rfl⟩

end Go.Proofs.Ytihmgamdnmipaaa
