/-
  The cache's writes that are kept, done to the blocks: the program's settle, and its Crash and Flush.
-/
import Derived.Test.YtlpijikhbjkmfaaG09
namespace Go.Proofs.Ytlpijikhbjkmfaa
open Go.RowKit

theorem encS_set (bs : List ByteArray) (j : Nat) (s : ByteArray) : (encS bs).set j (.string s) = encS (bs.set j s) := by simp [encS, List.map_set]
theorem own_far {w : World} {base : Nat} {e : TypeId} {size n : Nat} {v : Value} {xs : List Value} (h : w.ownsRow base e size v n xs) {a : Addr} (ha : v.ownBlock ≠ some a.block) (u : Value) : (w.setCell a u).ownsRow base e size v n xs := by
  refine ⟨h.1, ?_⟩
  rcases h.2 with h2 | ⟨g, cap, cur, rfl, hg, hh, r⟩
  · exact .inl h2
  · exact .inr ⟨g, cap, cur, rfl, hg, by rw [Below.heap_setCell _ _ _ _ (fun e => ha (by rw [← e]; rfl))]; exact hh, r⟩
theorem own_farB {w : World} {base : Nat} {e : TypeId} {size n : Nat} {v : Value} {xs : List Value} (h : w.ownsRow base e size v n xs) (B : Nat) (hB : v.ownBlock ≠ some B) (i : Nat) (u : Value) : (w.setCell ⟨B, i, none⟩ u).ownsRow base e size v n xs := own_far h (a := ⟨B, i, none⟩) hB u
/-- What settle keeps from round to round. -/
structure St (w wr : World) (base : Nat) (A : Option Addr) (n c : Nat) (A' : Option Addr) (m c' : Nat) (l : Int) (b : Bool) (now : List ByteArray) (cs : List (Int × ByteArray)) (K : Option Addr) (k : Nat) (ks : List Bool) : Prop where
  box : B4 wr w.heap.size (.slice A n c) (.slice A' m c') (.int .i64 l) (.bool b)
  res : B4 wr (w.heap.size + 1) (.slice none 0 0) (.slice none 0 0) (.int .i64 0) (.bool false)
  own : Own wr base A n c A' m c' now cs
  inn : ∀ g, (Value.slice A n c).ownBlock = some g → g < w.heap.size
  keep : Reads wr w.heap.size 1 K k (encB ks)
  far : 0 < k → ∀ ad, K = some ad → (Value.slice A n c).ownBlock ≠ some ad.block
  below : Below base w wr
  others : ∀ q, q < w.heap.size → (Value.slice A n c).ownBlock ≠ some q → wr.heap[q]? = w.heap[q]?
theorem St.step {w wr w' : World} {base : Nat} {A : Option Addr} {n c : Nat} {A' : Option Addr} {m c' : Nat} {l : Int} {b : Bool} {now : List ByteArray} {cs : List (Int × ByteArray)} {K : Option Addr} {k : Nat} {ks : List Bool}
    (h : St w wr base A n c A' m c' l b now cs K k ks) (hb : Below wr.heap.size wr w') (hB : base ≤ wr.heap.size) : St w w' base A n c A' m c' l b now cs K k ks :=
  ⟨h.box.step hb, h.res.step hb, h.own.below hb, h.inn, h.keep.keep fun q o hq => hb.cell (p := ⟨q, o, none⟩) (by have := h.box.lt; exact Nat.lt_trans hq this), h.far, h.below.trans (hb.mono hB), fun q hq hne => (hb.block q (by have := h.box.lt; omega)).trans (h.others q hq hne)⟩
/-- One block written. -/
theorem St.put {w wr : World} {base : Nat} {g n c : Nat} {A' : Option Addr} {m c' : Nat} {l : Int} {b : Bool} {now : List ByteArray} {cs : List (Int × ByteArray)} {K : Option Addr} {k : Nat} {ks : List Bool}
    (h : St w wr base (some ⟨g, 0, none⟩) n c A' m c' l b now cs K k ks) (j : Nat) (s : ByteArray) (hg : base ≤ g) : St w (wr.setCell ⟨g, j, none⟩ (.string s)) base (some ⟨g, 0, none⟩) n c A' m c' l b (now.set j s) cs K k ks := by
  have hlt := h.inn g rfl
  have hst := h.own.bs.stored j (.string s)
  refine ⟨h.box.far (by simp; omega) _, h.res.far (by simp; omega) _, ⟨by rw [← encS_set]; exact hst.1, own_grown h.own.cs hst.2 fun g' hg' e => ?_⟩, h.inn, ⟨h.keep.1, fun hk => ?_⟩, h.far, h.below.setCell hg _, fun q hq hne => (Below.heap_setCell wr ⟨g, j, none⟩ _ q (fun e => hne (by rw [e]; rfl))).trans (h.others q hq hne)⟩
  · obtain rfl : g = g' := by injection e
    exact own_apart h.own.bs h.own.cs (by decide) g rfl hg'
  · obtain ⟨q, o, rfl, hq, hc⟩ := h.keep.2 hk
    refine ⟨q, o, rfl, hq, fun i u hu => ?_⟩
    rw [World.cell?_setCell_other wr ⟨g, j, none⟩ ⟨q, o + i, none⟩ (.string s) (fun e => h.far hk _ rfl (by injection e with e1; rw [e1]; rfl))]
    exact hc i u hu

set_option maxRecDepth 100000 in
set_option maxHeartbeats 2000000 in
theorem settle_any (A A' K : Option Addr) (n c m c' k kc : Nat) (l : Int) (b : Bool) (bs : List ByteArray) (cs : List (Int × ByteArray)) (ks : List Bool) (base : Nat) (w : World) (hbase : base ≤ w.heap.size)
    (ho : Own w base A n c A' m c' bs cs) (hK : Reads w w.heap.size 1 K k (encB ks)) (hkc : k ≤ kc) (hkm : kc ≤ maxLen) (hfar : 0 < k → ∀ ad, K = some ad → (Value.slice A n c).ownBlock ≠ some ad.block) :
    Calls Try.prog 48 #[.agg #[.slice A n c, .slice A' m c', .int .i64 l, .bool b], .slice K k kc] w fun e w' => e = .returned (.agg #[.slice A n c, .slice none 0 0, .int .i64 l, .bool b]) ∧ w'.ownsRow base 9 1 (.slice A n c) n (encS (settleL bs cs ks)) ∧ Below base w w' ∧ ∀ q, q < w.heap.size → (Value.slice A n c).ownBlock ≠ some q → w'.heap[q]? = w.heap[q]? := by
  have hinn : ∀ g, (Value.slice A n c).ownBlock = some g → g < w.heap.size := by
    intro g hg
    rcases ho.bs.2 with ⟨h, _⟩ | ⟨g', cap, cur, h, _, hh, _⟩
    · rw [h] at hg; cases hg
    · rw [h] at hg
      obtain rfl : g' = g := by simpa [Value.ownBlock] using hg
      rcases Nat.lt_or_ge g' w.heap.size with hlt | hge
      · exact hlt
      · rw [Array.getElem?_eq_none hge] at hh; cases hh
  have hS0 : St w ((w.alloc (.cells #[.slice A n c, .slice A' m c', .int .i64 l, .bool b] 25)).alloc (.cells #[.slice none 0 0, .slice none 0 0, .int .i64 0, .bool false] 25)) base A n c A' m c' l b bs cs K k ks :=
    ⟨(B4.new w _ _ _ _).alloc _, by simpa using B4.new (w.alloc (.cells #[.slice A n c, .slice A' m c', .int .i64 l, .bool b] 25)) (.slice none 0 0) (.slice none 0 0) (.int .i64 0) (.bool false), (ho.alloc _).alloc _, hinn, hK.below ((alloc2_below w _ _)), hfar, (alloc2_below w _ _).mono hbase, fun q hq _ => (alloc2_below w _ _).block q hq⟩
  have lc : cs.length = m := (Reads.of_own ho.cs).lenW
  have lk := hK.lenB
  unfold maxLen at hkm
  have hm63 : m ≤ 9223372036854775807 := by have := own_len ho.cs; unfold maxLen at this; omega
  have S0 := Lib.hid hS0
  have LC := Lib.hid (And.intro lc lk)
  clear hS0 hinn hfar hK lc lk ho
  by_cases hmin : k ≤ m
  · go_enter Try.func48, Try.ntmps48
    go_wp2
    go_loopg [17] k (fun g s17 wr => ∃ i : Nat, i ≤ k ∧ k - i ≤ g ∧ s17 = .int .i64 i ∧ Hid (St w wr base A n c A' m c' l b (settleL bs (cs.take i) (ks.take i)) cs K k ks))
    case atStart => exact ⟨0, Nat.zero_le _, by omega, rfl, Lib.hid (by rw [List.take_zero, settleL_nil]; exact S0.out)⟩
    case round =>
      obtain ⟨i, hi, hg, rfl, J⟩ := hrel
      by_cases hlt : i < k
      · have hik : i < k := by omega
        have him : i < m := by omega
        obtain ⟨b1, o1, rfl, _, g1⟩ := J.out.keep.bool hik
        obtain ⟨b2, o2, rfl, _, g2, f2⟩ := (Reads.of_own J.out.own.cs).wr him
        have Wk := Lib.hid (wr_get (cs := cs) (k := i) (by rw [LC.out.1]; exact him))
        have Kk := Lib.hid (b_get (ks := ks) (k := i) (by rw [LC.out.2]; exact hik))
        generalize wAt cs i = x at g2 Wk
        generalize wDat cs i = s at f2 Wk
        generalize bAt ks i = kb at g1 Kk
        obtain ⟨x0, x1, x2, x3, xf⟩ := J.out.box.cells
        have hz : w.heap.size < wr.heap.size := J.out.box.lt
        have c1 := fun W => isBlock_any A (some ⟨b2, o2, none⟩) n c m c' l b x W
        have JA : Hid (St w (wr.alloc (.cells #[.int .i64 x, .string s] 53)) base A n c (some ⟨b2, o2, none⟩) m c' l b (settleL bs (cs.take i) (ks.take i)) cs (some ⟨b1, o1, none⟩) k ks) := Lib.hid (J.out.step (alloc_below0 wr _) (by omega))
        cases kb
        · have JN : Hid (St w (wr.alloc (.cells #[.int .i64 x, .string s] 53)) base A n c (some ⟨b2, o2, none⟩) m c' l b (settleL bs (cs.take (i + 1)) (ks.take (i + 1))) cs (some ⟨b1, o1, none⟩) k ks) := Lib.hid (by rw [settleL_step cs ks bs i (x, s) false Wk.out Kk.out, if_neg (by decide)]; exact JA.out)
          go_wp2
          go_roundg (k - (i + 1))
          case measure => omega
          case rel => exact ⟨i + 1, by omega, by omega, by go_num, JN⟩
        · have hl : (settleL bs (cs.take i) (ks.take i)).length = n := (Reads.of_own J.out.own.bs).lenS
          by_cases hat : 0 ≤ x ∧ x < (n : Int)
          · rw [decide_eq_true hat] at c1
            obtain ⟨j, rfl⟩ : ∃ j : Nat, x = j := ⟨x.toNat, by omega⟩
            have hj : j < n := by omega
            obtain ⟨gb, rfl, hgb, hgl, _, _⟩ := own_cells J.out.own.bs (by omega)
            have hgw : gb < w.heap.size := J.out.inn gb rfl
            have hjn : (j : Int) < (n : Int) := by omega
            have HX : Hid (settleL bs (cs.take (i + 1)) (ks.take (i + 1)) = (settleL bs (cs.take i) (ks.take i)).set j s) := Lib.hid (by
              rw [settleL_step cs ks bs i ((j : Int), s) true Wk.out Kk.out, if_pos rfl, put_yes ⟨by omega, by rw [hl]; omega⟩]
              rfl)
            clear hat hl
            go_wp2_with fail
            refine (c1 _).mono ?_
            rintro e w5 ⟨rfl, hb5⟩
            have J5 := Lib.hid (JA.out.step hb5 (by simp; omega))
            obtain ⟨v0, v1, v2, v3, vf⟩ := J5.out.box.cells
            have q0 := ((World.cell?_of_block (w := wr.alloc (.cells #[.int .i64 (j : Int), .string s] 53)) (a := ⟨wr.heap.size, 0, none⟩) (hb5.block wr.heap.size (by simp))))
            have q1 := ((World.cell?_of_block (w := wr.alloc (.cells #[.int .i64 (j : Int), .string s] 53)) (a := ⟨wr.heap.size, 1, none⟩) (hb5.block wr.heap.size (by simp))))
            rw [cell_of_row _ wr.heap.size _ _ _ (0, 0) (heap_alloc_new wr _)] at q0 q1
            have t0 : w5.cell? ⟨wr.heap.size, 0, none⟩ = some (.int .i64 (j : Int)) := q0
            have t1 : w5.cell? ⟨wr.heap.size, 1, none⟩ = some (.string s) := q1
            clear q0 q1 x0 x1 x2 x3 xf g1 g2 f2 hb5
            have hcj := J5.out.own.bs.cellAt j (by omega)
            rw [encS_get (by rw [(Reads.of_own J5.out.own.bs).lenS]; exact hj)] at hcj
            have hfj := J5.out.own.bs.frozenAt j
            have JN : Hid (St w (w5.setCell ⟨gb, j, none⟩ (.string s)) base (some ⟨gb, 0, none⟩) n c (some ⟨b2, o2, none⟩) m c' l b (settleL bs (cs.take (i + 1)) (ks.take (i + 1))) cs (some ⟨b1, o1, none⟩) k ks) := Lib.hid (by rw [HX.out]; exact J5.out.put j s hgb)
            go_wp2
            go_roundg (k - (i + 1))
            case measure => omega
            case rel => exact ⟨i + 1, by omega, by omega, by go_num, JN⟩
          · rw [decide_eq_false hat] at c1
            have HX : Hid (settleL bs (cs.take (i + 1)) (ks.take (i + 1)) = settleL bs (cs.take i) (ks.take i)) := Lib.hid (by
              rw [settleL_step cs ks bs i (x, s) true Wk.out Kk.out, if_pos rfl, put_no (fun h => hat ⟨h.1, by rw [← hl]; exact h.2⟩)])
            clear hat hl
            go_wp2_with fail
            refine (c1 _).mono ?_
            rintro e w5 ⟨rfl, hb5⟩
            have JN : Hid (St w w5 base A n c (some ⟨b2, o2, none⟩) m c' l b (settleL bs (cs.take (i + 1)) (ks.take (i + 1))) cs (some ⟨b1, o1, none⟩) k ks) := Lib.hid (by rw [HX.out]; exact JA.out.step hb5 (by simp; omega))
            clear x0 x1 x2 x3 xf g1 g2 f2 hb5
            go_wp2
            go_roundg (k - (i + 1))
            case measure => omega
            case rel => exact ⟨i + 1, by omega, by omega, by go_num, JN⟩
      · have : i = k := by omega
        subst this
        have HX := Lib.hid (settleL_cut cs ks bs i (by rw [LC.out.1, LC.out.2]; omega))
        obtain ⟨x0, x1, x2, x3, xf⟩ := J.out.box.cells
        obtain ⟨y0, y1, y2, y3, yf⟩ := J.out.res.cells
        have O := Lib.hid (own_eq_vals J.out.own.bs (congrArg encS HX.out))
        have HB := Lib.hid (And.intro J.out.below J.out.others)
        have hz : w.heap.size + 1 < wr.heap.size := J.out.res.lt
        have ne0 : (Value.slice A n c).ownBlock ≠ some w.heap.size := fun h => absurd (J.out.inn _ h) (by omega)
        have ne1 : (Value.slice A n c).ownBlock ≠ some (w.heap.size + 1) := fun h => absurd (J.out.inn _ h) (by omega)
        have NE := Lib.hid (And.intro ne0 ne1)
        clear ne0 ne1
        clear J hg hi
        go_wp2
        refine bodyPost_ret (v := .agg #[.slice A n c, .slice none 0 0, .int .i64 l, .bool b]) (by simp [results, Try.results48, go_sem, y0, y1, y2, y3]) rfl ⟨rfl, ?_, ?_, ?_⟩
        · have ne0 := NE.out.1
          have ne1 := NE.out.2
          repeat (first | (with_reducible refine own_farB ?_ w.heap.size ne0 _ _) | (with_reducible refine own_farB ?_ (w.heap.size + 1) ne1 _ _))
          exact O.out
        · repeat (with_reducible refine Below.setCell ?_ (by simp; try omega) _)
          exact HB.out.1
        · intro q hq hne
          repeat (rw [Below.heap_setCell _ _ _ _ (by simp; omega)])
          exact HB.out.2 q hq hne
  · go_enter Try.func48, Try.ntmps48
    go_wp2
    go_loopg [17] m (fun g s17 wr => ∃ i : Nat, i ≤ m ∧ m - i ≤ g ∧ s17 = .int .i64 i ∧ Hid (St w wr base A n c A' m c' l b (settleL bs (cs.take i) (ks.take i)) cs K k ks))
    case atStart => exact ⟨0, Nat.zero_le _, by omega, rfl, Lib.hid (by rw [List.take_zero, settleL_nil]; exact S0.out)⟩
    case round =>
      obtain ⟨i, hi, hg, rfl, J⟩ := hrel
      by_cases hlt : i < m
      · have hik : i < k := by omega
        have him : i < m := by omega
        obtain ⟨b1, o1, rfl, _, g1⟩ := J.out.keep.bool hik
        obtain ⟨b2, o2, rfl, _, g2, f2⟩ := (Reads.of_own J.out.own.cs).wr him
        have Wk := Lib.hid (wr_get (cs := cs) (k := i) (by rw [LC.out.1]; exact him))
        have Kk := Lib.hid (b_get (ks := ks) (k := i) (by rw [LC.out.2]; exact hik))
        generalize wAt cs i = x at g2 Wk
        generalize wDat cs i = s at f2 Wk
        generalize bAt ks i = kb at g1 Kk
        obtain ⟨x0, x1, x2, x3, xf⟩ := J.out.box.cells
        have hz : w.heap.size < wr.heap.size := J.out.box.lt
        have c1 := fun W => isBlock_any A (some ⟨b2, o2, none⟩) n c m c' l b x W
        have JA : Hid (St w (wr.alloc (.cells #[.int .i64 x, .string s] 53)) base A n c (some ⟨b2, o2, none⟩) m c' l b (settleL bs (cs.take i) (ks.take i)) cs (some ⟨b1, o1, none⟩) k ks) := Lib.hid (J.out.step (alloc_below0 wr _) (by omega))
        cases kb
        · have JN : Hid (St w (wr.alloc (.cells #[.int .i64 x, .string s] 53)) base A n c (some ⟨b2, o2, none⟩) m c' l b (settleL bs (cs.take (i + 1)) (ks.take (i + 1))) cs (some ⟨b1, o1, none⟩) k ks) := Lib.hid (by rw [settleL_step cs ks bs i (x, s) false Wk.out Kk.out, if_neg (by decide)]; exact JA.out)
          go_wp2
          go_roundg (m - (i + 1))
          case measure => omega
          case rel => exact ⟨i + 1, by omega, by omega, by go_num, JN⟩
        · have hl : (settleL bs (cs.take i) (ks.take i)).length = n := (Reads.of_own J.out.own.bs).lenS
          by_cases hat : 0 ≤ x ∧ x < (n : Int)
          · rw [decide_eq_true hat] at c1
            obtain ⟨j, rfl⟩ : ∃ j : Nat, x = j := ⟨x.toNat, by omega⟩
            have hj : j < n := by omega
            obtain ⟨gb, rfl, hgb, hgl, _, _⟩ := own_cells J.out.own.bs (by omega)
            have hgw : gb < w.heap.size := J.out.inn gb rfl
            have hjn : (j : Int) < (n : Int) := by omega
            have HX : Hid (settleL bs (cs.take (i + 1)) (ks.take (i + 1)) = (settleL bs (cs.take i) (ks.take i)).set j s) := Lib.hid (by
              rw [settleL_step cs ks bs i ((j : Int), s) true Wk.out Kk.out, if_pos rfl, put_yes ⟨by omega, by rw [hl]; omega⟩]
              rfl)
            clear hat hl
            go_wp2_with fail
            refine (c1 _).mono ?_
            rintro e w5 ⟨rfl, hb5⟩
            have J5 := Lib.hid (JA.out.step hb5 (by simp; omega))
            obtain ⟨v0, v1, v2, v3, vf⟩ := J5.out.box.cells
            have q0 := ((World.cell?_of_block (w := wr.alloc (.cells #[.int .i64 (j : Int), .string s] 53)) (a := ⟨wr.heap.size, 0, none⟩) (hb5.block wr.heap.size (by simp))))
            have q1 := ((World.cell?_of_block (w := wr.alloc (.cells #[.int .i64 (j : Int), .string s] 53)) (a := ⟨wr.heap.size, 1, none⟩) (hb5.block wr.heap.size (by simp))))
            rw [cell_of_row _ wr.heap.size _ _ _ (0, 0) (heap_alloc_new wr _)] at q0 q1
            have t0 : w5.cell? ⟨wr.heap.size, 0, none⟩ = some (.int .i64 (j : Int)) := q0
            have t1 : w5.cell? ⟨wr.heap.size, 1, none⟩ = some (.string s) := q1
            clear q0 q1 x0 x1 x2 x3 xf g1 g2 f2 hb5
            have hcj := J5.out.own.bs.cellAt j (by omega)
            rw [encS_get (by rw [(Reads.of_own J5.out.own.bs).lenS]; exact hj)] at hcj
            have hfj := J5.out.own.bs.frozenAt j
            have JN : Hid (St w (w5.setCell ⟨gb, j, none⟩ (.string s)) base (some ⟨gb, 0, none⟩) n c (some ⟨b2, o2, none⟩) m c' l b (settleL bs (cs.take (i + 1)) (ks.take (i + 1))) cs (some ⟨b1, o1, none⟩) k ks) := Lib.hid (by rw [HX.out]; exact J5.out.put j s hgb)
            go_wp2
            go_roundg (m - (i + 1))
            case measure => omega
            case rel => exact ⟨i + 1, by omega, by omega, by go_num, JN⟩
          · rw [decide_eq_false hat] at c1
            have HX : Hid (settleL bs (cs.take (i + 1)) (ks.take (i + 1)) = settleL bs (cs.take i) (ks.take i)) := Lib.hid (by
              rw [settleL_step cs ks bs i (x, s) true Wk.out Kk.out, if_pos rfl, put_no (fun h => hat ⟨h.1, by rw [← hl]; exact h.2⟩)])
            clear hat hl
            go_wp2_with fail
            refine (c1 _).mono ?_
            rintro e w5 ⟨rfl, hb5⟩
            have JN : Hid (St w w5 base A n c (some ⟨b2, o2, none⟩) m c' l b (settleL bs (cs.take (i + 1)) (ks.take (i + 1))) cs (some ⟨b1, o1, none⟩) k ks) := Lib.hid (by rw [HX.out]; exact JA.out.step hb5 (by simp; omega))
            clear x0 x1 x2 x3 xf g1 g2 f2 hb5
            go_wp2
            go_roundg (m - (i + 1))
            case measure => omega
            case rel => exact ⟨i + 1, by omega, by omega, by go_num, JN⟩
      · have : i = m := by omega
        subst this
        have HX := Lib.hid (settleL_cut cs ks bs i (by rw [LC.out.1, LC.out.2]; omega))
        obtain ⟨x0, x1, x2, x3, xf⟩ := J.out.box.cells
        obtain ⟨y0, y1, y2, y3, yf⟩ := J.out.res.cells
        have O := Lib.hid (own_eq_vals J.out.own.bs (congrArg encS HX.out))
        have HB := Lib.hid (And.intro J.out.below J.out.others)
        have hz : w.heap.size + 1 < wr.heap.size := J.out.res.lt
        have ne0 : (Value.slice A n c).ownBlock ≠ some w.heap.size := fun h => absurd (J.out.inn _ h) (by omega)
        have ne1 : (Value.slice A n c).ownBlock ≠ some (w.heap.size + 1) := fun h => absurd (J.out.inn _ h) (by omega)
        have NE := Lib.hid (And.intro ne0 ne1)
        clear ne0 ne1
        clear J hg hi
        go_wp2
        refine bodyPost_ret (v := .agg #[.slice A n c, .slice none 0 0, .int .i64 l, .bool b]) (by simp [results, Try.results48, go_sem, y0, y1, y2, y3]) rfl ⟨rfl, ?_, ?_, ?_⟩
        · have ne0 := NE.out.1
          have ne1 := NE.out.2
          repeat (first | (with_reducible refine own_farB ?_ w.heap.size ne0 _ _) | (with_reducible refine own_farB ?_ (w.heap.size + 1) ne1 _ _))
          exact O.out
        · repeat (with_reducible refine Below.setCell ?_ (by simp; try omega) _)
          exact HB.out.1
        · intro q hq hne
          repeat (rw [Below.heap_setCell _ _ _ _ (by simp; omega)])
          exact HB.out.2 q hq hne

end Go.Proofs.Ytlpijikhbjkmfaa

/-
  The program's Crash: for all devices that memory can hold, and whatever is kept.
-/
namespace Go.Proofs.Ytlpijikhbjkmfaa
open Go.RowKit

set_option maxRecDepth 100000 in
set_option maxHeartbeats 2000000 in
theorem crash_any (A A' K : Option Addr) (n c m c' k kc : Nat) (d : D) (ks : List Bool) (w : World) (h : Dv w w.heap.size A n A' m d) (hK : Reads w w.heap.size 1 K k (encB ks)) (hkc : k ≤ kc) (hkm : kc ≤ maxLen) :
    Calls Try.prog 15 #[.agg #[.slice A n c, .slice A' m c', .int .i64 d.left, .bool d.dead], .slice K k kc] w fun e w' => Tells w w' (crashD d ks) e := by
  have H := Lib.hid h; clear h
  have HK := Lib.hid hK; clear hK
  have hn16 := H.out.hn
  go_enter Try.func15, Try.ntmps15
  go_wp2_with fail
  refine (copied_any A A' n c m c' d d.left d.dead _ ((H.out.alloc _).alloc _)).mono ?_
  rintro e w1 ⟨A2, c2, A2', c2', rfl, ho1, hb1⟩
  have r1 := (B4.new (w.alloc (.cells #[.slice A n c, .slice A' m c', .int .i64 d.left, .bool d.dead] 25)) (.slice none 0 0) (.slice none 0 0) (.int .i64 0) (.bool false)).step hb1
  simp only [World.size_alloc] at r1
  have hz : w.heap.size + 1 < w1.heap.size := r1.lt
  have hB1 : Below w.heap.size w w1 := (alloc2_below w _ _).trans (hb1.mono (by simp; omega))
  have O := Lib.hid (ho1.base (base' := w.heap.size + 2) (by simp))
  have R1 := Lib.hid r1
  have HB1 := Lib.hid hB1
  clear r1 ho1 hb1 hB1
  go_wp2_with fail
  refine (settle_any A2 A2' K n c2 m c2' k kc d.left d.dead d.bs d.cs ks (w.heap.size + 2) _ (by omega) O.out ((HK.out.below HB1.out).more (by omega)) hkc hkm ?_).mono ?_
  · intro hk ad had hbl
    have h1 := own_row_ge O.out.bs _ hbl
    obtain ⟨q, o, e, hq, _⟩ := HK.out.2 hk
    rw [had] at e
    obtain rfl : ad = ⟨q, o, none⟩ := by injection e
    simp at h1
    omega
  rintro e w2 ⟨rfl, ho2, hb2, _⟩
  have r2 := R1.out.below hb2 (by omega)
  have hz2 : w.heap.size + 1 < w2.heap.size := r2.lt
  have hB2 : Below w.heap.size w w2 := HB1.out.trans (hb2.mono (by omega))
  have HB2 := Lib.hid hB2
  have O2 := Lib.hid ho2
  obtain ⟨y0, y1, y2, y3, yf⟩ := r2.cells
  clear r2 ho2 hb2 hB2 O R1 HB1
  go_wp2
  refine bodyPost_ret (v := .agg #[.slice A2 n c2, .slice none 0 0, .int .i64 (-1), .bool false]) (by simp [results, Try.results15, go_sem, y0, y1, y2, y3, hz2]) rfl ?_
  refine ⟨A2, n, c2, none, 0, 0, rfl, ⟨.of_own (c := c2) (e := 9) (base := w.heap.size + 2) ?_, Reads.nil, hn16, by omega⟩, ?_⟩
  · repeat (first | (with_reducible refine ownsRow_setCell_below ?_ (by simp) _) | (with_reducible refine own_alloc ?_ _))
    exact O2.out
  · repeat (first | (with_reducible refine Below.setCell ?_ (by simp; try omega) _) | (with_reducible refine Below.alloc ?_ (by simp; omega) _))
    exact HB2.out

end Go.Proofs.Ytlpijikhbjkmfaa
