/-
  DevKeeps returns true for every device and whatever is kept.
-/
import Derived.Test.YtmkhffopmohdhaaDevAwake
namespace Go.Proofs.Ytmkhffopmohdhaa
open Go.RowKit

theorem keeps_math {d : D} {ks : List Bool} {i : Nat} (hi : i < d.bs.length) : blk (settleL d.bs d.cs ks) i = blk d.bs i ∨ ∃ r, r < d.cs.length ∧ wAt d.cs r = (i : Int) ∧ wDat d.cs r = blk (settleL d.bs d.cs ks) i := by
  rcases settleL_from d.cs ks d.bs i (blk (settleL d.bs d.cs ks) i) (blk_get (by rw [settleL_length]; exact hi)) with h | ⟨p, hp, h1, h2⟩
  · left
    rw [blk_get hi] at h
    injection h with h
    exact h.symm
  · right
    obtain ⟨r, hr, e⟩ := List.mem_iff_getElem.1 hp
    have h3 := wr_get (cs := d.cs) (k := r) hr
    rw [List.getElem?_eq_getElem hr, e] at h3
    injection h3 with h3
    rw [h3] at h1 h2
    exact ⟨r, hr, h1, h2⟩
theorem bytes_iff {a b : ByteArray} : (a.toList == b.toList) = true ↔ a = b := ⟨fun h => bytes_inj (by simpa using h), fun h => bytes_same h⟩

set_option maxRecDepth 100000 in
set_option maxHeartbeats 4000000 in
theorem keeps_any (A A' K : Option Addr) (n c m c' k kc : Nat) (d : D) (ks : List Bool) (w : World) (h : Dv w w.heap.size A n A' m d) (hK : Reads w w.heap.size 1 K k (encB ks)) (hkc : k ≤ kc) (hkm : kc ≤ maxLen) :
    Calls Try.prog 5 #[.agg #[.slice A n c, .slice A' m c', .int .i64 d.left, .bool d.dead], .slice K k kc] w fun e w' => e = .returned (.bool true) ∧ Below w.heap.size w w' := by
  have H := Lib.hid h; have HK := Lib.hid hK
  clear h hK
  by_cases hf : FitP d
  case neg =>
    have c1 := fun W hW => refFit_any A A' n c m c' d W hW
    rw [fitD_false hf] at c1
    clear hf
    go_enter Try.func5, Try.ntmps5
    go_wp2_with (first
      | (go_at_call 11; refine (c1 _ (H.out.alloc _)).mono ?_; rintro e w1 ⟨rfl, hb1⟩)
      | (go_at_call 12; refine (awake_any _).mono ?_; rintro e w2 ⟨rfl, hb2⟩))
    go_ret
    exact ⟨rfl, (alloc_below0 _ _).trans ((bstep hb1 hb2).mono (by simp))⟩
  have HF := Lib.hid hf
  have hm63 : m ≤ 4096 := by have := hf.1.2.2.1; rw [H.out.cs.lenW] at this; exact this
  have hn63 : n ≤ 1024 := by have := hf.1.2.1; rw [H.out.bs.lenS] at this; exact this
  have c1 := fun W hW => refFit_any A A' n c m c' d W hW
  rw [fitD_true hf] at c1
  clear hf
  go_enter Try.func5, Try.ntmps5
  go_wp2_with fail
  refine (c1 _ (H.out.alloc _)).mono ?_
  rintro e w1 ⟨rfl, hb1⟩
  have k1 := (B4.new w (.slice A n c) (.slice A' m c') (.int .i64 d.left) (.bool d.dead)).step hb1
  have B1 : Hid (Below w.heap.size w w1) := Lib.hid ((alloc_below0 _ _).trans (hb1.mono (by simp)))
  have H1 := Lib.hid (And.intro (H.out.step B1.out) (HK.out.step B1.out))
  have K1 := Lib.hid k1
  obtain ⟨x0, x1, x2, x3, xf⟩ := k1.cells
  clear k1 hb1 c1
  go_wp2_with fail
  refine (crash_any A A' K n c m c' k kc d ks _ H1.out.1 H1.out.2 hkc hkm).mono ?_
  rintro e w2 ⟨A2, n2, c2, A2', m2, c2', rfl, hd2, hb2⟩
  have k2 := K1.out.step hb2
  have B2 : Hid (Below w.heap.size w w2) := Lib.hid (bstep B1.out hb2)
  have H2 := Lib.hid (And.intro (H1.out.1.step hb2) hd2)
  have hn2 : n2 = n := by rw [← hd2.bs.lenS, ← H1.out.1.bs.lenS]; exact settleL_length _ _ _
  have hm2 : m2 = 0 := by rw [← hd2.cs.lenW]; rfl
  subst hn2
  subst hm2
  have K2 := Lib.hid k2
  clear x0 x1 x2 x3 xf k2 hb2 hd2 K1 H1 B1
  have cf : ∀ W, Dv W W.heap.size A2 n2 A2' 0 (crashD d ks) → Calls Try.prog 24 #[.agg #[.slice A2 n2 c2, .slice A2' 0 c2', .int .i64 (-1), .bool false]] W fun e w' => e = .returned (.bool true) ∧ Below W.heap.size W w' := fun W hW =>
    (fit_any A2 A2' n2 c2 0 c2' (crashD d ks) W hW).mono fun e w' h => by rw [fitD_true (fit_crash HF.out ks)] at h; exact h
  go_wp2_with fail
  refine (cf _ (H2.out.2.alloc _)).mono ?_
  rintro e w6 ⟨rfl, hb6⟩
  have k6 := (K2.out.alloc (.cells #[.slice A2 n2 c2, .slice A2' 0 c2', .int .i64 (-1), .bool false] 26)).step hb6
  have t6 := (B4.new w2 (.slice A2 n2 c2) (.slice A2' 0 c2') (.int .i64 (-1)) (.bool false)).step hb6
  have B6 : Hid (Below w.heap.size w w6) := Lib.hid (bstep (B2.out.alloc B2.out.size _) hb6)
  have H6 := Lib.hid (And.intro ((H2.out.1.alloc _).step hb6) ((H2.out.2.alloc _).step hb6))
  have K6 := Lib.hid k6
  obtain ⟨x0, x1, x2, x3, xf⟩ := k6.cells
  obtain ⟨z0, z1, z2, z3, zf⟩ := t6.cells
  clear k6 t6 hb6 cf K2 H2 B2
  go_wp2
  go_loopg [43] n2 (fun g s43 wr => ∃ i : Nat, i ≤ n2 ∧ n2 - i ≤ g ∧ s43 = .int .i64 i ∧ Hid (Below w6.heap.size w6 wr))
  case atStart => exact ⟨0, Nat.zero_le _, by omega, rfl, Lib.hid (Below.refl _ _)⟩
  case round =>
    obtain ⟨i, hi, hg, rfl, J⟩ := hrel
    by_cases hlt : i < n2
    · have hin : (i : Int) < (n2 : Int) := by omega
      have kr := K6.out.step J.out
      obtain ⟨b2, o2, rfl, _, g2⟩ := (H6.out.2.step J.out).bs.str hlt
      obtain ⟨b1, o1, rfl, _, g1⟩ := (H6.out.1.step J.out).bs.str hlt
      have HM := Lib.hid (keeps_math (d := d) (ks := ks) (i := i) (by rw [H6.out.1.bs.lenS]; exact hlt))
      have e2 : (crashD d ks).bs = settleL d.bs d.cs ks := rfl
      rw [e2] at g2
      clear e2
      generalize blk (settleL d.bs d.cs ks) i = x at g2 HM
      generalize blk d.bs i = y at g1 HM
      obtain ⟨ok0, hok⟩ : ∃ b, (x.toList == y.toList) = b := ⟨_, rfl⟩
      have HO : Hid (ok0 = true ↔ x = y) := Lib.hid (by rw [← hok]; exact bytes_iff)
      clear x0 x1 x2 x3 xf z0 z1 z2 z3 zf
      obtain ⟨x0, x1, x2, x3, xf⟩ := kr.cells
      clear kr
      go_wp2
      go_loopg [8, 58] m (fun g s8 s58 wr => ∃ (q : Nat) (ok : Bool), q ≤ m ∧ m - q ≤ g ∧ s58 = .int .i64 q ∧ s8 = .bool ok ∧ Hid (ok = true ↔ (x = y ∨ ∃ r, r < q ∧ wAt d.cs r = (i : Int) ∧ wDat d.cs r = x)) ∧ Hid (Below w6.heap.size w6 wr))
      case atStart => exact ⟨0, ok0, Nat.zero_le _, by omega, rfl, rfl, Lib.hid ⟨fun h => .inl (HO.out.1 h), fun h => h.elim HO.out.2 (fun ⟨r, hr, _⟩ => absurd hr (Nat.not_lt_zero _))⟩, J⟩
      case round =>
        obtain ⟨q, ok, hq, hg2, rfl, rfl, HI, J2⟩ := hrel
        by_cases hqm : q < m
        · have hqi : (q : Int) < (m : Int) := by omega
          obtain ⟨b3, o3, rfl, _, g3, f3⟩ := (H6.out.1.step J2.out).cs.wr hqm
          have HN : Hid ((x = y ∨ ∃ r, r < q + 1 ∧ wAt d.cs r = (i : Int) ∧ wDat d.cs r = x) ↔ ((x = y ∨ ∃ r, r < q ∧ wAt d.cs r = (i : Int) ∧ wDat d.cs r = x) ∨ (wAt d.cs q = (i : Int) ∧ wDat d.cs q = x))) := Lib.hid (by
            constructor
            · rintro (h | ⟨r, hr, h⟩)
              · exact .inl (.inl h)
              · by_cases e : r = q
                · subst e; exact .inr h
                · exact .inl (.inr ⟨r, by omega, h⟩)
            · rintro ((h | ⟨r, hr, h⟩) | h)
              · exact .inl h
              · exact .inr ⟨r, by omega, h⟩
              · exact .inr ⟨q, by omega, h⟩)
          generalize wAt d.cs q = wa at g3 HN
          generalize wDat d.cs q = wd at f3 HN
          have JN : Hid (Below w6.heap.size w6 (wr.alloc (.cells #[.int .i64 wa, .string wd] 51))) := Lib.hid (J2.out.alloc J2.out.size _)
          cases ok
          · by_cases ha : wa = (i : Int)
            · have ta : (wa == (i : Int)) = true := by simpa using ha
              by_cases hd : wd = x
              · have td := bytes_same hd
                have HR : Hid (x = y ∨ ∃ r, r < q + 1 ∧ wAt d.cs r = (i : Int) ∧ wDat d.cs r = x) := Lib.hid (HN.out.2 (.inr ⟨ha, hd⟩))
                clear ha hd
                go_wp2
                go_roundg (m - (q + 1))
                case measure => omega
                case rel => exact ⟨q + 1, true, by omega, by omega, by go_num, rfl, Lib.hid ⟨fun _ => HR.out, fun _ => rfl⟩, JN⟩
              · have td := bytes_other hd
                have HR : Hid (false = true ↔ (x = y ∨ ∃ r, r < q + 1 ∧ wAt d.cs r = (i : Int) ∧ wDat d.cs r = x)) := Lib.hid ⟨fun h => Bool.noConfusion h, fun h => (HN.out.1 h).elim (fun h => HI.out.2 h) (fun h => absurd h.2 hd)⟩
                clear ha hd
                go_wp2
                go_roundg (m - (q + 1))
                case measure => omega
                case rel => exact ⟨q + 1, false, by omega, by omega, by go_num, rfl, HR, JN⟩
            · have ta : (wa == (i : Int)) = false := by rw [beq_eq_false_iff_ne]; exact ha
              have HR : Hid (false = true ↔ (x = y ∨ ∃ r, r < q + 1 ∧ wAt d.cs r = (i : Int) ∧ wDat d.cs r = x)) := Lib.hid ⟨fun h => Bool.noConfusion h, fun h => (HN.out.1 h).elim (fun h => HI.out.2 h) (fun h => absurd h.1 ha)⟩
              clear ha
              go_wp2
              go_roundg (m - (q + 1))
              case measure => omega
              case rel => exact ⟨q + 1, false, by omega, by omega, by go_num, rfl, HR, JN⟩
          · have HR : Hid (x = y ∨ ∃ r, r < q + 1 ∧ wAt d.cs r = (i : Int) ∧ wDat d.cs r = x) := Lib.hid (HN.out.2 (.inl (HI.out.1 rfl)))
            go_wp2
            go_roundg (m - (q + 1))
            case measure => omega
            case rel => exact ⟨q + 1, true, by omega, by omega, by go_num, rfl, Lib.hid ⟨fun _ => HR.out, fun _ => rfl⟩, JN⟩
        · have hqq : q = m := by omega
          have hok2 : ok = true := HI.out.2 (by
            rcases HM.out with h | ⟨r, hr, h⟩
            · exact .inl h
            · exact .inr ⟨r, by rw [H6.out.1.cs.lenW] at hr; omega, h⟩)
          subst hqq
          subst hok2
          clear HI hg2 hq
          go_wp2
          go_roundg (n2 - (i + 1))
          case measure => omega
          case rel => exact ⟨i + 1, by omega, by omega, by go_num, J2⟩
    · have : i = n2 := by omega
      subst this
      clear hg hi
      go_wp2_with (go_at_call 12; refine (awake_any _).mono ?_; rintro e w9 ⟨rfl, hb9⟩)
      go_ret
      exact ⟨rfl, bstep (bstep B6.out J.out) hb9⟩

end Go.Proofs.Ytmkhffopmohdhaa
