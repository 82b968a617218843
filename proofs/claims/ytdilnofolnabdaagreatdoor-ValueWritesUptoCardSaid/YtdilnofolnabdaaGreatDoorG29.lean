/-
  The document's own answers of layers 8 and 13: a text cut at a byte.
-/
import Derived.Lib.IndexLaws
import Derived.Lib.IndexBytes
import Derived.Test.YtdilnofolnabdaaGreatDoorG28
import Derived.Test.YtdilnofolnabdaaGreatDoorG20
namespace Go.Proofs.YtdilnofolnabdaaGreatDoor
open Go.RowKit

theorem idx_at {l : List UInt8} {c : UInt8} {k : Nat} (h : l[k]? = some c) (hn : ∀ j, j < k → l[j]? ≠ some c) : Lib.indexByte l c = k := by
  have ge := Lib.indexByte_ge l c
  by_cases e : Lib.indexByte l c = -1
  · exact absurd h (Lib.indexByte_none e k)
  · obtain ⟨o, ho⟩ : ∃ o : Nat, Lib.indexByte l c = o := ⟨(Lib.indexByte l c).toNat, by omega⟩
    have hs := Lib.indexByte_some ho
    rw [ho]
    rcases Nat.lt_trichotomy o k with h1 | h1 | h1
    · exact absurd hs.1 (hn o h1)
    · rw [h1]
    · exact absurd h (hs.2 k h1)
theorem idx_no {l : List UInt8} {c : UInt8} (hn : ∀ j : Nat, l[j]? ≠ some c) : Lib.indexByte l c = -1 := by
  have ge := Lib.indexByte_ge l c
  by_cases e : Lib.indexByte l c = -1
  · exact e
  · obtain ⟨o, ho⟩ : ∃ o : Nat, Lib.indexByte l c = o := ⟨(Lib.indexByte l c).toNat, by omega⟩
    exact absurd (Lib.indexByte_some ho).1 (hn o)
theorem cut_at {l : List UInt8} {c : UInt8} {k : Nat} (h : l[k]? = some c) (hn : ∀ j, j < k → l[j]? ≠ some c) : Lib.cut l [c] = (l.take k, l.drop (k + 1), true) := by
  unfold Lib.cut
  rw [Lib.index_one, idx_at h hn, if_pos (by omega)]
  rfl
theorem cut_no {l : List UInt8} {c : UInt8} (hn : ∀ j : Nat, l[j]? ≠ some c) : Lib.cut l [c] = (l, [], false) := by
  unfold Lib.cut
  rw [Lib.index_one, idx_no hn, if_neg (by omega)]
set_option maxRecDepth 100000 in
set_option maxHeartbeats 8000000 in
theorem refCut_any (s : ByteArray) (hs : s.size ≤ 16777216) (c : UInt8) (w : World) :
    Calls Tryz.prog 45 #[.string s, .int .u8 (c.toNat : Int)] w fun e w' => e = .returned (.tuple #[.string ⟨(Lib.cut s.data.toList [c]).1.toArray⟩, .string ⟨(Lib.cut s.data.toList [c]).2.1.toArray⟩, .bool (Lib.cut s.data.toList [c]).2.2]) ∧ Below w.heap.size w w' := by
  go_enter Tryz.func45, Tryz.ntmps45
  go_wp2
  go_loopw [7] (fun p wr => ∃ k : Nat, p = .int .i64 k ∧ k ≤ s.size ∧ wr = w ∧ Hid (∀ j, j < k → s.data.toList[j]? ≠ some c)) (fun p _ => s.size - (intOf p).toNat)
  case atStart => exact ⟨0, rfl, Nat.zero_le _, rfl, Lib.hid (fun j hj => absurd hj (Nat.not_lt_zero j))⟩
  case round =>
    obtain ⟨k, rfl, hk, rfl, HN⟩ := hrel
    by_cases hlt : k < s.size
    · have h1 : (k : Int) < (s.size : Int) := by omega
      have h2 : (k : Int) + 1 ≤ (s.size : Int) := by omega
      have hki : (k : Int) ≤ (s.size : Int) := by omega
      by_cases hc : s[k] = c
      · have HC : Hid (Lib.cut s.data.toList [c] = (s.data.toList.take k, s.data.toList.drop (k + 1), true)) := Lib.hid (cut_at (by rw [getR hlt, hc]) HN.out)
        have z1 : (((s[k].toNat : Nat) : Int) == ((c.toNat : Nat) : Int)) = true := by rw [hc]; simp
        have HX := Lib.hid (tailR s (k + 1))
        have HX2 : Hid (s.extract 0 k = ⟨(s.data.toList.take k).toArray⟩) := Lib.hid (bytesR (by rw [headR, mk_listR]))
        have hmx : Tryz.prog.follows .mixedOrders = true := by kernel_rfl
        clear HN hc
        go_wp2
        go_region
        go_wp2
        go_ret3
        refine ⟨?_, (Below.refl _ _).drew⟩
        rw [HC.out]
        simp only
        rw [← HX.out, ← HX2.out]
        rfl
      · have hne : ¬ ((s[k].toNat : Nat) : Int) = ((c.toNat : Nat) : Int) := fun h => hc (UInt8.toNat_inj.1 (by omega))
        have z1 : (((s[k].toNat : Nat) : Int) == ((c.toNat : Nat) : Int)) = false := by rw [beq_eq_false_iff_ne]; exact hne
        have HN2 : Hid (∀ j, j < k + 1 → s.data.toList[j]? ≠ some c) := Lib.hid (fun j hj => by
          rcases Nat.lt_or_ge j k with h | h
          · exact HN.out j h
          · obtain rfl : j = k := by omega
            rw [getR hlt]
            intro e
            exact hc (Option.some.inj e))
        clear HN hc
        go_wp2
        go_round
        case rel => exact ⟨k + 1, by go_num, by omega, by trivial, HN2⟩
        case measure => simp [intOf]; omega
    · obtain rfl : k = s.size := by omega
      have HC : Hid (Lib.cut s.data.toList [c] = (s.data.toList, [], false)) := Lib.hid (cut_no (fun j e => by
        rcases Nat.lt_or_ge j s.size with h | h
        · exact HN.out j h e
        · rw [List.getElem?_eq_none (by rw [listR]; exact h)] at e; cases e))
      clear HN
      go_wp2
      go_ret3
      exact ⟨by rw [HC.out]; simp only; rw [list_mkR]; rfl, Below.refl _ _⟩
end Go.Proofs.YtdilnofolnabdaaGreatDoor

/-
  The document's own answers of layer 13: a period.
-/
namespace Go.Proofs.YtdilnofolnabdaaGreatDoor
open Go.RowKit

set_option maxRecDepth 100000 in
set_option maxHeartbeats 16000000 in
theorem refPer13_any (s : ByteArray) (hs : s.size ≤ 1048576) (w : World) :
    Calls Tryz.prog 29 #[.string s] w fun e w' => e = .returned (.tuple #[perVal (perV s.data.toList).1.1 (perV s.data.toList).1.2, .int .i64 (perV s.data.toList).2]) ∧ Below w.heap.size w w' := by
  have ha : Below w.heap.size w (w.alloc (.cells #[.int .i64 0, .bool false, .bool false, .int .i64 0] 25)) := (Below.refl _ w).alloc (Nat.le_refl _) _
  have hz := P4.new w Wh.zero 0
  change P4 (w.alloc (.cells #[.int .i64 0, .bool false, .bool false, .int .i64 0] 25)) _ _ _ at hz
  have hlen : (Lib.cut s.data.toList [47]).1.length ≤ s.size ∧ (Lib.cut s.data.toList [47]).2.1.length ≤ s.size := by
    rw [← listR]
    unfold Lib.cut
    split <;> simp <;> omega
  have cc := fun (W : World) => refCut_any s (by omega) 47 W
  change ∀ (W : World), Calls Tryz.prog 45 #[.string s, .int .u8 47] W _ at cc
  have HP := Lib.hid (perV.eq_1 s.data.toList)
  have cT := fun W => refTime13_any ⟨(Lib.cut s.data.toList [47]).1.toArray⟩ W
  rw [mk_listR] at cT
  have cX := fun W => refTime13_any ⟨(Lib.cut s.data.toList [47]).2.1.toArray⟩ W
  rw [mk_listR] at cX
  have cD := fun W => refDur13_any ⟨(Lib.cut s.data.toList [47]).2.1.toArray⟩ (by rw [mk_sizeR]; omega) W
  rw [mk_listR] at cD
  have htc := timV_case (Lib.cut s.data.toList [47]).1
  have hxc := timV_case (Lib.cut s.data.toList [47]).2.1
  have hdr := durV_range (Lib.cut s.data.toList [47]).2.1
  obtain ⟨⟨⟨ts, tu, td⟩, er⟩, hge⟩ : ∃ p, timV (Lib.cut s.data.toList [47]).1 = p := ⟨_, rfl⟩
  obtain ⟨⟨⟨xs, xu, xd⟩, ex⟩, hgx⟩ : ∃ p, timV (Lib.cut s.data.toList [47]).2.1 = p := ⟨_, rfl⟩
  obtain ⟨⟨n, de⟩, hgd⟩ : ∃ p, durV (Lib.cut s.data.toList [47]).2.1 = p := ⟨_, rfl⟩
  rw [hge] at cT HP htc
  rw [hgx] at cX HP hxc
  rw [hgd] at cD HP hdr
  simp only at HP htc hxc hdr
  have HT : er = 0 ∨ er = 10 := htc.imp (fun h => h.1) (fun h => by injection h)
  have HX : (ex = 0 ∧ -62135596800 ≤ xs ∧ xs ≤ 253402300799) ∨ ex = 10 := hxc.imp (fun h => h) (fun h => by injection h)
  have HD : de = 0 ∨ de = 10 := hdr.2.imp (fun h => h) (fun h => by injection h)
  have HTB : -62135596800 ≤ ts ∧ ts ≤ 253402300799 := by
    rcases htc with ⟨_, h⟩ | h
    · exact h
    · injection h with h _; injection h with h1 _; subst h1; decide
  generalize (⟨(Lib.cut s.data.toList [47]).1.toArray⟩ : ByteArray) = A at *
  generalize (⟨(Lib.cut s.data.toList [47]).2.1.toArray⟩ : ByteArray) = B at *
  generalize (Lib.cut s.data.toList [47]).2.2 = ck at *
  clear hge hgx hgd hlen htc hxc hdr
  unfold whV at cT cX
  go_enter Tryz.func29, Tryz.ntmps29
  go_upto_region 1 with fail
  generalize w.alloc (.cells #[.int .i64 0, .bool false, .bool false, .int .i64 0] 25) = w1 at ha hz ⊢
  go_upto_region 3 with (first
    | (go_at_call 45; refine (cc _).mono ?_; rintro e w2 ⟨rfl, hb2⟩
       have hz2 := hz.step hb2
       have hB2 := bstep ha hb2
       clear cc)
    | (go_at_call 46; refine (cT _).mono ?_; rintro e w3 ⟨rfl, hb3⟩
       have hz3 := hz2.step hb3
       have ha3 : Below w3.heap.size w3 (w3.alloc (.cells #[.int .i64 ts, .bool tu, .bool td] 23)) := (Below.refl _ w3).alloc (Nat.le_refl _) _
       have HZ3 := Lib.hid (hz3.step ha3)
       have HN3 := Lib.hid (H3.new w3 ⟨ts, tu, td⟩)
       have HB3 := Lib.hid (bstep (bstep hB2 hb3) ha3)
       clear hz3 ha3 hb3 hB2 hz2 hz ha hb2 cT))
  obtain ⟨w4, hw4⟩ : ∃ w4, w3.alloc (.cells #[.int .i64 ts, .bool tu, .bool td] 23) = w4 := ⟨_, rfl⟩
  rw [hw4] at HZ3 HN3 HB3
  simp only [hw4]
  clear hw4
  cases ck
  · have HF : Hid (perV s.data.toList = ((Wh.zero, 0), 10)) := Lib.hid (by rw [HP.out, if_neg (fun k => by cases k.1)])
    clear HP cX cD
    obtain ⟨x0, x1, x2, x3⟩ := HZ3.out.cells
    have xf := HZ3.out.frozen
    obtain ⟨y0, y1, y2⟩ := HN3.out.cells
    simp only at y0 y1 y2
    go_wp2
    refine bodyPost_ret (results_cell2 rfl _ rfl rfl (load_per (w := Wh.zero) (n := 0) (heap_put4 HZ3.out))) rfl ⟨?_, HB3.out.trans (below_put4 (Nat.le_refl _) _ _ _ _)⟩
    rw [HF.out]; rfl
  · rcases HT with rfl | rfl
    · cases td
      · rcases HD with rfl | rfl
        · by_cases hn : n < 0
          · have HF : Hid (perV s.data.toList = ((Wh.zero, 0), 10)) := Lib.hid (by rw [HP.out, if_pos ⟨rfl, rfl, rfl⟩, if_pos rfl, if_pos hn])
            clear HP cX
            obtain ⟨x0, x1, x2, x3⟩ := HZ3.out.cells
            have xf := HZ3.out.frozen
            obtain ⟨y0, y1, y2⟩ := HN3.out.cells
            simp only at y0 y1 y2
            go_wp2_with (go_at_call 47; refine (cD _).mono ?_; rintro e w5 ⟨rfl, hb5⟩
                         clear y0 y1 y2 cD
                         have HZ5 := Lib.hid (HZ3.out.step hb5)
                         have HN5 := Lib.hid (HN3.out.step hb5)
                         have HB5 := Lib.hid (bstep HB3.out hb5)
                         obtain ⟨y0, y1, y2⟩ := HN5.out.cells
                         simp only at y0 y1 y2
                         obtain ⟨x0, x1, x2, x3⟩ := HZ5.out.cells
                         have xf := HZ5.out.frozen
                         clear hb5)
            refine bodyPost_ret (results_cell2 rfl _ rfl rfl (load_per (w := Wh.zero) (n := 0) (heap_put4 HZ5.out))) rfl ⟨?_, HB5.out.trans (below_put4 (Nat.le_refl _) _ _ _ _)⟩
            rw [HF.out]; rfl
          · have HF : Hid (perV s.data.toList = ((⟨ts, tu, false⟩, n), 0)) := Lib.hid (by rw [HP.out, if_pos ⟨rfl, rfl, rfl⟩, if_pos rfl, if_neg hn])
            clear HP cX
            obtain ⟨x0, x1, x2, x3⟩ := HZ3.out.cells
            have xf := HZ3.out.frozen
            obtain ⟨y0, y1, y2⟩ := HN3.out.cells
            simp only at y0 y1 y2
            go_wp2_with (go_at_call 47; refine (cD _).mono ?_; rintro e w5 ⟨rfl, hb5⟩
                         clear y0 y1 y2 cD
                         have HZ5 := Lib.hid (HZ3.out.step hb5)
                         have HN5 := Lib.hid (HN3.out.step hb5)
                         have HB5 := Lib.hid (bstep HB3.out hb5)
                         obtain ⟨y0, y1, y2⟩ := HN5.out.cells
                         simp only at y0 y1 y2
                         obtain ⟨x0, x1, x2, x3⟩ := HZ5.out.cells
                         have xf := HZ5.out.frozen
                         clear hb5)
            refine bodyPost_ret (results_cell2 rfl _ rfl rfl (load_per (w := ⟨ts, tu, false⟩) (n := n) (heap_put4 HZ5.out))) rfl ⟨?_, HB5.out.trans (below_put4 (Nat.le_refl _) _ _ _ _)⟩
            rw [HF.out]; rfl
        · rcases HX with ⟨rfl, hx1, hx2⟩ | rfl
          · cases xd
            · by_cases hu : xu = tu
              · subst hu
                have n1 : -9223372036854775808 ≤ xs - ts ∧ xs - ts < 9223372036854775808 := by omega
                by_cases hl : xs < ts
                · have HF : Hid (perV s.data.toList = ((Wh.zero, 0), 10)) := Lib.hid (by rw [HP.out, if_pos ⟨rfl, rfl, rfl⟩, if_neg (show ¬ (10 : Int) = 0 by decide), if_neg (fun k => by have := k.2.2.2; omega)])
                  clear HP
                  obtain ⟨x0, x1, x2, x3⟩ := HZ3.out.cells
                  have xf := HZ3.out.frozen
                  obtain ⟨y0, y1, y2⟩ := HN3.out.cells
                  simp only at y0 y1 y2
                  go_wp2_with (first
                    | (go_at_call 47; refine (cD _).mono ?_; rintro e w5 ⟨rfl, hb5⟩
                       clear y0 y1 y2 cD
                       have HZ5 := Lib.hid (HZ3.out.step hb5)
                       have HN5 := Lib.hid (HN3.out.step hb5)
                       have HB5 := Lib.hid (bstep HB3.out hb5)
                       obtain ⟨y0, y1, y2⟩ := HN5.out.cells
                       simp only at y0 y1 y2
                       obtain ⟨x0, x1, x2, x3⟩ := HZ5.out.cells
                       have xf := HZ5.out.frozen
                       clear hb5)
                    | (go_at_call 46; refine (cX _).mono ?_; rintro e w6 ⟨rfl, hb6⟩
                       clear y0 y1 y2 x0 x1 x2 x3 xf cX
                       have ha7 : Below w6.heap.size w6 (w6.alloc (.cells #[.int .i64 xs, .bool xu, .bool false] 23)) := (Below.refl _ w6).alloc (Nat.le_refl _) _
                       have HZ7 := Lib.hid ((HZ5.out.step hb6).step ha7)
                       have HN7 := Lib.hid ((HN5.out.step hb6).step ha7)
                       have HX7 := Lib.hid (H3.new w6 ⟨xs, xu, false⟩)
                       have HB7 := Lib.hid (bstep (bstep HB5.out hb6) ha7)
                       obtain ⟨y0, y1, y2⟩ := HN7.out.cells
                       obtain ⟨z0, z1, z2⟩ := HX7.out.cells
                       simp only at y0 y1 y2 z0 z1 z2
                       obtain ⟨x0, x1, x2, x3⟩ := HZ7.out.cells
                       have xf := HZ7.out.frozen
                       clear hb6 ha7))
                  refine bodyPost_ret (results_cell2 rfl _ rfl rfl (load_per (w := Wh.zero) (n := 0) (heap_put4 HZ7.out))) rfl ⟨?_, HB7.out.trans (below_put4 (Nat.le_refl _) _ _ _ _)⟩
                  rw [HF.out]; rfl
                · have HF : Hid (perV s.data.toList = ((⟨ts, xu, false⟩, xs - ts), 0)) := Lib.hid (by rw [HP.out, if_pos ⟨rfl, rfl, rfl⟩, if_neg (show ¬ (10 : Int) = 0 by decide), if_pos ⟨rfl, rfl, rfl, by omega⟩])
                  clear HP
                  obtain ⟨x0, x1, x2, x3⟩ := HZ3.out.cells
                  have xf := HZ3.out.frozen
                  obtain ⟨y0, y1, y2⟩ := HN3.out.cells
                  simp only at y0 y1 y2
                  go_wp2_with (first
                    | (go_at_call 47; refine (cD _).mono ?_; rintro e w5 ⟨rfl, hb5⟩
                       clear y0 y1 y2 cD
                       have HZ5 := Lib.hid (HZ3.out.step hb5)
                       have HN5 := Lib.hid (HN3.out.step hb5)
                       have HB5 := Lib.hid (bstep HB3.out hb5)
                       obtain ⟨y0, y1, y2⟩ := HN5.out.cells
                       simp only at y0 y1 y2
                       obtain ⟨x0, x1, x2, x3⟩ := HZ5.out.cells
                       have xf := HZ5.out.frozen
                       clear hb5)
                    | (go_at_call 46; refine (cX _).mono ?_; rintro e w6 ⟨rfl, hb6⟩
                       clear y0 y1 y2 x0 x1 x2 x3 xf cX
                       have ha7 : Below w6.heap.size w6 (w6.alloc (.cells #[.int .i64 xs, .bool xu, .bool false] 23)) := (Below.refl _ w6).alloc (Nat.le_refl _) _
                       have HZ7 := Lib.hid ((HZ5.out.step hb6).step ha7)
                       have HN7 := Lib.hid ((HN5.out.step hb6).step ha7)
                       have HX7 := Lib.hid (H3.new w6 ⟨xs, xu, false⟩)
                       have HB7 := Lib.hid (bstep (bstep HB5.out hb6) ha7)
                       obtain ⟨y0, y1, y2⟩ := HN7.out.cells
                       obtain ⟨z0, z1, z2⟩ := HX7.out.cells
                       simp only at y0 y1 y2 z0 z1 z2
                       obtain ⟨x0, x1, x2, x3⟩ := HZ7.out.cells
                       have xf := HZ7.out.frozen
                       clear hb6 ha7))
                  refine bodyPost_ret (results_cell2 rfl _ rfl rfl (load_per (w := ⟨ts, xu, false⟩) (n := xs - ts) (heap_put4 HZ7.out))) rfl ⟨?_, HB7.out.trans (below_put4 (Nat.le_refl _) _ _ _ _)⟩
                  rw [HF.out]; rfl
              · have hub : ¬ ((Value.bool xu) = (Value.bool tu)) := fun h => hu (by injection h)
                have hub2 : (xu == tu) = false := by rw [beq_eq_false_iff_ne]; exact hu
                have hub3 : (xu != tu) = true := by simpa using hu
                have HF : Hid (perV s.data.toList = ((Wh.zero, 0), 10)) := Lib.hid (by rw [HP.out, if_pos ⟨rfl, rfl, rfl⟩, if_neg (show ¬ (10 : Int) = 0 by decide), if_neg (fun k => hu k.2.2.1)])
                clear HP
                obtain ⟨x0, x1, x2, x3⟩ := HZ3.out.cells
                have xf := HZ3.out.frozen
                obtain ⟨y0, y1, y2⟩ := HN3.out.cells
                simp only at y0 y1 y2
                go_wp2_with (first
                  | (go_at_call 47; refine (cD _).mono ?_; rintro e w5 ⟨rfl, hb5⟩
                     clear y0 y1 y2 cD
                     have HZ5 := Lib.hid (HZ3.out.step hb5)
                     have HN5 := Lib.hid (HN3.out.step hb5)
                     have HB5 := Lib.hid (bstep HB3.out hb5)
                     obtain ⟨y0, y1, y2⟩ := HN5.out.cells
                     simp only at y0 y1 y2
                     obtain ⟨x0, x1, x2, x3⟩ := HZ5.out.cells
                     have xf := HZ5.out.frozen
                     clear hb5)
                  | (go_at_call 46; refine (cX _).mono ?_; rintro e w6 ⟨rfl, hb6⟩
                     clear y0 y1 y2 x0 x1 x2 x3 xf cX
                     have ha7 : Below w6.heap.size w6 (w6.alloc (.cells #[.int .i64 xs, .bool xu, .bool false] 23)) := (Below.refl _ w6).alloc (Nat.le_refl _) _
                     have HZ7 := Lib.hid ((HZ5.out.step hb6).step ha7)
                     have HN7 := Lib.hid ((HN5.out.step hb6).step ha7)
                     have HX7 := Lib.hid (H3.new w6 ⟨xs, xu, false⟩)
                     have HB7 := Lib.hid (bstep (bstep HB5.out hb6) ha7)
                     obtain ⟨y0, y1, y2⟩ := HN7.out.cells
                     obtain ⟨z0, z1, z2⟩ := HX7.out.cells
                     simp only at y0 y1 y2 z0 z1 z2
                     obtain ⟨x0, x1, x2, x3⟩ := HZ7.out.cells
                     have xf := HZ7.out.frozen
                     clear hb6 ha7))
                refine bodyPost_ret (results_cell2 rfl _ rfl rfl (load_per (w := Wh.zero) (n := 0) (heap_put4 HZ7.out))) rfl ⟨?_, HB7.out.trans (below_put4 (Nat.le_refl _) _ _ _ _)⟩
                rw [HF.out]; rfl
            · have HF : Hid (perV s.data.toList = ((Wh.zero, 0), 10)) := Lib.hid (by rw [HP.out, if_pos ⟨rfl, rfl, rfl⟩, if_neg (show ¬ (10 : Int) = 0 by decide), if_neg (fun k => by cases k.2.1)])
              clear HP
              obtain ⟨x0, x1, x2, x3⟩ := HZ3.out.cells
              have xf := HZ3.out.frozen
              obtain ⟨y0, y1, y2⟩ := HN3.out.cells
              simp only at y0 y1 y2
              go_wp2_with (first
                | (go_at_call 47; refine (cD _).mono ?_; rintro e w5 ⟨rfl, hb5⟩
                   clear y0 y1 y2 cD
                   have HZ5 := Lib.hid (HZ3.out.step hb5)
                   have HN5 := Lib.hid (HN3.out.step hb5)
                   have HB5 := Lib.hid (bstep HB3.out hb5)
                   obtain ⟨y0, y1, y2⟩ := HN5.out.cells
                   simp only at y0 y1 y2
                   obtain ⟨x0, x1, x2, x3⟩ := HZ5.out.cells
                   have xf := HZ5.out.frozen
                   clear hb5)
                | (go_at_call 46; refine (cX _).mono ?_; rintro e w6 ⟨rfl, hb6⟩
                   clear y0 y1 y2 x0 x1 x2 x3 xf cX
                   have ha7 : Below w6.heap.size w6 (w6.alloc (.cells #[.int .i64 xs, .bool xu, .bool true] 23)) := (Below.refl _ w6).alloc (Nat.le_refl _) _
                   have HZ7 := Lib.hid ((HZ5.out.step hb6).step ha7)
                   have HN7 := Lib.hid ((HN5.out.step hb6).step ha7)
                   have HX7 := Lib.hid (H3.new w6 ⟨xs, xu, true⟩)
                   have HB7 := Lib.hid (bstep (bstep HB5.out hb6) ha7)
                   obtain ⟨y0, y1, y2⟩ := HN7.out.cells
                   obtain ⟨z0, z1, z2⟩ := HX7.out.cells
                   simp only at y0 y1 y2 z0 z1 z2
                   obtain ⟨x0, x1, x2, x3⟩ := HZ7.out.cells
                   have xf := HZ7.out.frozen
                   clear hb6 ha7))
              refine bodyPost_ret (results_cell2 rfl _ rfl rfl (load_per (w := Wh.zero) (n := 0) (heap_put4 HZ7.out))) rfl ⟨?_, HB7.out.trans (below_put4 (Nat.le_refl _) _ _ _ _)⟩
              rw [HF.out]; rfl
          · have HF : Hid (perV s.data.toList = ((Wh.zero, 0), 10)) := Lib.hid (by rw [HP.out, if_pos ⟨rfl, rfl, rfl⟩, if_neg (show ¬ (10 : Int) = 0 by decide), if_neg (fun k => by cases k.1)])
            clear HP
            obtain ⟨x0, x1, x2, x3⟩ := HZ3.out.cells
            have xf := HZ3.out.frozen
            obtain ⟨y0, y1, y2⟩ := HN3.out.cells
            simp only at y0 y1 y2
            go_wp2_with (first
              | (go_at_call 47; refine (cD _).mono ?_; rintro e w5 ⟨rfl, hb5⟩
                 clear y0 y1 y2 cD
                 have HZ5 := Lib.hid (HZ3.out.step hb5)
                 have HN5 := Lib.hid (HN3.out.step hb5)
                 have HB5 := Lib.hid (bstep HB3.out hb5)
                 obtain ⟨y0, y1, y2⟩ := HN5.out.cells
                 simp only at y0 y1 y2
                 obtain ⟨x0, x1, x2, x3⟩ := HZ5.out.cells
                 have xf := HZ5.out.frozen
                 clear hb5)
              | (go_at_call 46; refine (cX _).mono ?_; rintro e w6 ⟨rfl, hb6⟩
                 clear y0 y1 y2 x0 x1 x2 x3 xf cX
                 have ha7 : Below w6.heap.size w6 (w6.alloc (.cells #[.int .i64 xs, .bool xu, .bool xd] 23)) := (Below.refl _ w6).alloc (Nat.le_refl _) _
                 have HZ7 := Lib.hid ((HZ5.out.step hb6).step ha7)
                 have HN7 := Lib.hid ((HN5.out.step hb6).step ha7)
                 have HX7 := Lib.hid (H3.new w6 ⟨xs, xu, xd⟩)
                 have HB7 := Lib.hid (bstep (bstep HB5.out hb6) ha7)
                 obtain ⟨y0, y1, y2⟩ := HN7.out.cells
                 obtain ⟨z0, z1, z2⟩ := HX7.out.cells
                 simp only at y0 y1 y2 z0 z1 z2
                 obtain ⟨x0, x1, x2, x3⟩ := HZ7.out.cells
                 have xf := HZ7.out.frozen
                 clear hb6 ha7))
            refine bodyPost_ret (results_cell2 rfl _ rfl rfl (load_per (w := Wh.zero) (n := 0) (heap_put4 HZ7.out))) rfl ⟨?_, HB7.out.trans (below_put4 (Nat.le_refl _) _ _ _ _)⟩
            rw [HF.out]; rfl
      · have HF : Hid (perV s.data.toList = ((Wh.zero, 0), 10)) := Lib.hid (by rw [HP.out, if_neg (fun k => by cases k.2.2)])
        clear HP cX cD
        obtain ⟨x0, x1, x2, x3⟩ := HZ3.out.cells
        have xf := HZ3.out.frozen
        obtain ⟨y0, y1, y2⟩ := HN3.out.cells
        simp only at y0 y1 y2
        go_wp2
        refine bodyPost_ret (results_cell2 rfl _ rfl rfl (load_per (w := Wh.zero) (n := 0) (heap_put4 HZ3.out))) rfl ⟨?_, HB3.out.trans (below_put4 (Nat.le_refl _) _ _ _ _)⟩
        rw [HF.out]; rfl
    · have HF : Hid (perV s.data.toList = ((Wh.zero, 0), 10)) := Lib.hid (by rw [HP.out, if_neg (fun k => by cases k.2.1)])
      clear HP cX cD
      obtain ⟨x0, x1, x2, x3⟩ := HZ3.out.cells
      have xf := HZ3.out.frozen
      obtain ⟨y0, y1, y2⟩ := HN3.out.cells
      simp only at y0 y1 y2
      go_wp2
      refine bodyPost_ret (results_cell2 rfl _ rfl rfl (load_per (w := Wh.zero) (n := 0) (heap_put4 HZ3.out))) rfl ⟨?_, HB3.out.trans (below_put4 (Nat.le_refl _) _ _ _ _)⟩
      rw [HF.out]; rfl
end Go.Proofs.YtdilnofolnabdaaGreatDoor
