/-
  The document's own answers of layer 8: a text cut at every comma.
-/
import Derived.Test.YtdilnofolnabdaaDoorG35
import Derived.Test.YtdilnofolnabdaaDoorG37
namespace Go.Proofs.YtdilnofolnabdaaDoor
open Go.RowKit

theorem infoSV : (Tryd.prog.info? 9).map (fun i => (i.zero, i.size, i.bytes)) = some (some (.string ⟨#[]⟩), 1, 16) := by kernel_rfl
/-- Pieces as cells. -/
def pcC (ps : List (List UInt8)) : List Value := ps.map fun p => .string ⟨p.toArray⟩
theorem pcC_len (ps : List (List UInt8)) : (pcC ps).length = ps.length := by simp [pcC]
theorem split_com (acc : List UInt8) (r : List UInt8) : splitA acc (44 :: r) = acc :: splitA [] r := by rw [splitA, if_pos rfl]
theorem split_on {c : UInt8} (h : c ≠ 44) (acc r : List UInt8) : splitA acc (c :: r) = splitA (acc ++ [c]) r := by rw [splitA, if_neg h]
/-- Where the cutting stands. -/
def SpI (s : ByteArray) (a k : Nat) (ps : List (List UInt8)) : Prop :=
  (k ≤ s.size ∧ a ≤ k ∧ splitA [] s.data.toList = ps ++ splitA ((s.data.toList.drop a).take (k - a)) (s.data.toList.drop k)) ∨ (k = s.size + 1 ∧ splitA [] s.data.toList = ps)
theorem piece_mk (s : ByteArray) (a b : Nat) : s.extract a b = ⟨((s.data.toList.drop a).take (b - a)).toArray⟩ := bytesR (by rw [cutR, mk_listR])
theorem pcC_snoc (s : ByteArray) (a k : Nat) (ps : List (List UInt8)) : pcC ps ++ [.string (s.extract a k)] = pcC (ps ++ [(s.data.toList.drop a).take (k - a)]) := by
  rw [piece_mk]; simp [pcC]
set_option maxRecDepth 100000 in
set_option maxHeartbeats 8000000 in
theorem refSplit_any (s : ByteArray) (hs : s.size ≤ 1048576) (w : World) :
    Calls Tryd.prog 40 #[.string s, .int .u8 44] w fun e w' => ∃ v, e = .returned v ∧ w'.ownsRow w.heap.size 9 1 v (splitA [] s.data.toList).length (pcC (splitA [] s.data.toList)) ∧ Below w.heap.size w w' := by
  obtain ⟨i0, hi, hz0, hz1, hz2⟩ := info_parts infoSV
  go_enter Tryd.func40, Tryd.ntmps40
  go_wp2
  go_loopw [5, 6, 7] (fun v av p wr => ∃ (a k : Nat) (ps : List (List UInt8)), av = .int .i64 a ∧ p = .int .i64 k ∧ k ≤ s.size + 1 ∧ ps.length ≤ k ∧ a ≤ s.size + 1 ∧ wr.ownsRow w.heap.size 9 1 v ps.length (pcC ps) ∧ Below w.heap.size w wr ∧ Hid (SpI s a k ps)) (fun _ _ p _ => s.size + 1 - (intOf p).toNat)
  case atStart => exact ⟨0, 0, [], rfl, rfl, Nat.zero_le _, Nat.le_refl _, Nat.zero_le _, World.ownsRow_nil _ _ _ _, Below.refl _ _, Lib.hid (.inl ⟨Nat.zero_le _, Nat.le_refl _, by simp⟩)⟩
  case round =>
    obtain ⟨a, k, ps, rfl, rfl, hk, hpl, ha, hown, hbw, HS⟩ := hrel
    have hsz := hbw.size
    by_cases hlt : k < s.size
    · obtain ⟨_, hak, he⟩ : k ≤ s.size ∧ a ≤ k ∧ splitA [] s.data.toList = ps ++ splitA ((s.data.toList.drop a).take (k - a)) (s.data.toList.drop k) := by
        rcases HS.out with h | h
        · exact h
        · omega
      have h1 : (k : Int) ≤ (s.size : Int) := by omega
      have h2 : ((k : Int) == (s.size : Int)) = false := by rw [beq_eq_false_iff_ne]; omega
      have h3 : (a : Int) ≤ (k : Int) := by omega
      by_cases hc : s[k].toNat = 44
      · have HV : Hid (SpI s (k + 1) (k + 1) (ps ++ [(s.data.toList.drop a).take (k - a)])) := Lib.hid (.inl ⟨by omega, Nat.le_refl _, by
          rw [he, dropR hlt, show s[k] = 44 from byte_of hc, split_com]
          simp⟩)
        have HC := Lib.hid (pcC_snoc s a k ps)
        clear HS he
        go_wp2_with (at_builtin; refine wpList_append_own _ rfl _ _ 75 rfl w.heap.size 9 i0 (.string ⟨#[]⟩) 1 16 Tryd.underlying75 hi hz0 hz1 hz2 rfl (by decide) _ _ _ rfl (hown.alloc _) ⟨_, 0, none⟩ 1 1 [.string (s.extract a k)] rfl rfl (cells_newV _ [.string (s.extract a k)] _) (by simp [Value.oneCell']) (by unfold maxLen; omega) (by omega) (by simp; omega) ?_; intro v' w1 hown1 hgrow1 _)
        go_round
        case rel =>
          refine ⟨k + 1, k + 1, _, by go_num, by go_num, by omega, ?_, by omega, ?_, below_append hbw hsz hown hgrow1, HV⟩
          · simp; omega
          · rw [HC.out] at hown1
            simpa using hown1
        case measure => simp [intOf]; omega
      · have hci : ¬ (((s[k].toNat : Nat) : Int) = 44) := by omega
        obtain ⟨z1, z2⟩ := intNe hci
        have HV : Hid (SpI s a (k + 1) ps) := Lib.hid (.inl ⟨by omega, by omega, by
          rw [he, dropR hlt, split_on (fun h => hc (by rw [h]; rfl)), takeB hak hlt]⟩)
        clear HS he hc
        go_wp2
        go_round
        case rel => exact ⟨a, k + 1, ps, rfl, by go_num, by omega, by omega, by omega, hown, hbw, HV⟩
        case measure => simp [intOf]; omega
    · by_cases hke : k = s.size
      · subst hke
        obtain ⟨_, hak, he⟩ : s.size ≤ s.size ∧ a ≤ s.size ∧ splitA [] s.data.toList = ps ++ splitA ((s.data.toList.drop a).take (s.size - a)) (s.data.toList.drop s.size) := by
          rcases HS.out with h | h
          · exact h
          · omega
        have h1 : (s.size : Int) ≤ (s.size : Int) := by omega
        have h2 : ((s.size : Int) == (s.size : Int)) = true := by simp
        have h3 : (a : Int) ≤ (s.size : Int) := by omega
        have HV : Hid (SpI s (s.size + 1) (s.size + 1) (ps ++ [(s.data.toList.drop a).take (s.size - a)])) := Lib.hid (.inr ⟨by omega, by
          rw [he, show s.data.toList.drop s.size = [] from List.drop_of_length_le (by rw [listR]; omega)]; rfl⟩)
        have HC := Lib.hid (pcC_snoc s a s.size ps)
        clear HS he
        go_wp2_with (at_builtin; refine wpList_append_own _ rfl _ _ 75 rfl w.heap.size 9 i0 (.string ⟨#[]⟩) 1 16 Tryd.underlying75 hi hz0 hz1 hz2 rfl (by decide) _ _ _ rfl (hown.alloc _) ⟨_, 0, none⟩ 1 1 [.string (s.extract a s.size)] rfl rfl (cells_newV _ [.string (s.extract a s.size)] _) (by simp [Value.oneCell']) (by unfold maxLen; omega) (by omega) (by simp; omega) ?_; intro v' w1 hown1 hgrow1 _)
        go_round
        case rel =>
          refine ⟨s.size + 1, s.size + 1, _, by go_num, by go_num, by omega, ?_, by omega, ?_, below_append hbw hsz hown hgrow1, HV⟩
          · simp; omega
          · rw [HC.out] at hown1
            simpa using hown1
        case measure => simp [intOf]
      · have hk2 : k = s.size + 1 := by omega
        have he : splitA [] s.data.toList = ps := by
          rcases HS.out with h | h
          · omega
          · exact h.2
        have h1 : ¬ (k : Int) ≤ (s.size : Int) := by omega
        have HE := Lib.hid he
        clear HS he
        go_wp2
        go_ret
        exact ⟨_, rfl, by rw [HE.out]; exact hown, hbw⟩
end Go.Proofs.YtdilnofolnabdaaDoor

/-
  The document's own answers of layer 13: rows of times, and whether two rows are the same.
-/
namespace Go.Proofs.YtdilnofolnabdaaDoor
open Go.RowKit

theorem mapT_take {ps : List (List UInt8)} {k : Nat} (h : k < ps.length) : ps.take (k + 1) = ps.take k ++ [ps[k]] := by rw [List.take_succ_eq_append_getElem h]
theorem mapT_cut {ps : List (List UInt8)} (k : Nat) (h : mapT (ps.take k) = none) : mapT ps = none := by
  have := mapT_pre _ (ps.drop k) h
  rwa [List.take_append_drop] at this
theorem own_some {W : World} {b e size n : Nat} {v : Value} {xs : List Value} (h : W.ownsRow b e size v n xs) (hn : 0 < n) : ∃ g cap, v = .slice (some ⟨g, 0, none⟩) n cap ∧ b ≤ g ∧ g < W.heap.size ∧ n ≤ cap ∧ cap ≤ maxLen := by
  rcases h.2 with ⟨_, h0⟩ | ⟨g, cap, cur, rfl, hb, hg, hn, hc, _⟩
  · omega
  · exact ⟨g, cap, rfl, hb, (Array.getElem?_eq_some_iff.1 hg).1, hn, hc⟩
set_option maxRecDepth 100000 in
set_option maxHeartbeats 8000000 in
theorem refTimes13_any (s : ByteArray) (hs : s.size ≤ 1048576) (w : World) :
    Calls Tryd.prog 14 #[.string s] w fun e w' => ∃ v, e = .returned (.tuple #[v, .int .i64 (timesV s.data.toList).2]) ∧ w'.ownsRow w.heap.size 32 3 v (timesV s.data.toList).1.length (whC (timesV s.data.toList).1) ∧ Below w.heap.size w w' := by
  obtain ⟨i0, hi, hz0, hz1, hz2⟩ := info_parts infoW
  have cS := fun W => refSplit_any s hs W
  have hlen := splitA_len s.data.toList []
  have hcl : s.data.toList.count 44 ≤ 1048576 := by
    have := List.count_le_length (a := (44 : UInt8)) (l := s.data.toList)
    have := listR s
    omega
  have HTV := Lib.hid (timesV.eq_1 s.data.toList)
  obtain ⟨ps, hps⟩ : ∃ ps, splitA [] s.data.toList = ps := ⟨_, rfl⟩
  rw [hps] at cS HTV hlen
  have hn0 : 0 < ps.length := by omega
  have hnb : ps.length ≤ 1048577 := by omega
  clear hlen hcl hps
  go_enter Tryd.func14, Tryd.ntmps14
  go_upto_region 2 with (go_at_call 40; refine (cS _).mono ?_; rintro e w1 ⟨v1, rfl, row1, hb1⟩
                         obtain ⟨g, cap, rfl, hg0, hg1, hcap, hcm⟩ := own_some row1 hn0)
  by_cases hmany : 100 < ps.length
  · have HF : Hid (timesV s.data.toList = ([], 27)) := Lib.hid (by rw [HTV.out, if_pos hmany])
    have hmi : (100 : Int) < ((ps.length : Nat) : Int) := by omega
    clear HTV
    go_wp2
    go_ret2
    exact ⟨_, by rw [HF.out]; rfl, by rw [HF.out]; exact World.ownsRow_nil _ _ _ _, hb1⟩
  · have hmi : ¬ (100 : Int) < ((ps.length : Nat) : Int) := by omega
    rw [if_neg hmany] at HTV
    have hs1 := hb1.size
    go_wp2
    go_loopw [5, 6] (fun v p wr => ∃ (k : Nat) (ws : List Wh), p = .int .i64 k ∧ k ≤ ps.length ∧ Hid (mapT (ps.take k) = some ws) ∧ wr.ownsRow w1.heap.size 32 3 v ws.length (whC ws) ∧ Below w1.heap.size w1 wr) (fun _ p _ => ps.length - (intOf p).toNat)
    case atStart => exact ⟨0, [], rfl, Nat.zero_le _, Lib.hid rfl, World.ownsRow_nil _ _ _ _, Below.refl _ _⟩
    case round =>
      obtain ⟨k, ws, rfl, hk, HM, hown, hbw⟩ := hrel
      have hsz := hbw.size
      by_cases hlt : k < ps.length
      · have h1 : (k : Int) < ((ps.length : Nat) : Int) := by omega
        have hwl := mapT_len _ _ HM.out
        rw [List.length_take] at hwl
        have hwb : ws.length ≤ 100 := by omega
        have HM2 := Lib.hid (mapT_snoc (ps.take k) ps[k])
        rw [HM.out, ← mapT_take hlt] at HM2
        have x0 : wr.cell? ⟨g, k, none⟩ = some (.string ⟨(ps[k]).toArray⟩) := by
          have hc := hbw.cell (p := ⟨g, k, none⟩) hg1
          rw [hc, row1.cellAt k (by omega)]
          unfold pcC
          rw [List.getElem?_map, List.getElem?_eq_getElem hlt]
          rfl
        have cT := fun W => refTime13_any ⟨(ps[k]).toArray⟩ W
        rw [mk_listR] at cT
        have htc := timV_case ps[k]
        obtain ⟨⟨t, er⟩, hge⟩ : ∃ p, timV ps[k] = p := ⟨_, rfl⟩
        rw [hge] at cT htc HM2
        unfold whV at cT
        simp only at cT htc HM2
        generalize (⟨(ps[k]).toArray⟩ : ByteArray) = T at x0 cT
        have BB := Lib.hid (And.intro hown hbw)
        clear hge hown hbw hwl
        rcases htc with ⟨rfl, _⟩ | h
        · have HR : Hid (mapT (ps.take (k + 1)) = some (ws ++ [t])) := Lib.hid (by rw [HM2.out]; rfl)
          clear HM HM2 HTV
          go_wp2_with (first
            | (go_at_call 12; refine (cT _).mono ?_; rintro e W1 ⟨rfl, hbx⟩
               obtain ⟨hown, hbw⟩ := BB.out
               have ha : Below W1.heap.size W1 (W1.alloc (.cells #[.int .i64 t.secs, .bool t.utc, .bool t.date] 32)) := (Below.refl _ W1).alloc (Nat.le_refl _) _
               have r2 := own_below hown (bstep hbx ha)
               obtain ⟨y0, y1, y2⟩ := (H3.new W1 t).cells
               have HK := Lib.hid r2
               have HB1 := Lib.hid (bstepB hbw hsz (bstep hbx ha))
               have HS1 := Lib.hid (show w1.heap.size ≤ (W1.alloc (.cells #[.int .i64 t.secs, .bool t.utc, .bool t.date] 32)).heap.size from Nat.le_trans hsz (bstep hbx ha).size)
               clear hown hbw ha r2 hbx)
            | (at_builtin
               refine wpList_append_own _ rfl _ _ 37 rfl w1.heap.size 32 i0 (.agg #[.int .i64 0, .bool false, .bool false]) 3 16 Tryd.underlying37 hi hz0 hz1 hz2 rfl (by decide) _ _ _ rfl (HK.out.alloc _) ⟨_, 0, none⟩ 1 1 [.int .i64 t.secs, .bool t.utc, .bool t.date] rfl rfl (cells_newW _ _ [.int .i64 t.secs, .bool t.utc, .bool t.date] _) (by simp [Value.oneCell']) (by unfold maxLen; omega) (by omega) (by have := HS1.out; simp at this ⊢; omega) ?_
               intro v' w2 hown' hgrow _
               have HO := Lib.hid hown'
               have HB2 := Lib.hid (below_append HB1.out HS1.out HK.out hgrow)
               clear hown' hgrow))
          go_round
          case rel =>
            refine ⟨k + 1, ws ++ [t], by go_num, by omega, HR, ?_, HB2.out⟩
            rw [whC_app, List.length_append]
            exact HO.out
          case measure => simp [intOf]; omega
        · injection h with h1 h2
          subst h1 h2
          have HF : Hid (timesV s.data.toList = ([], 10)) := Lib.hid (by
            rw [HTV.out, mapT_cut (k + 1) (by rw [HM2.out]; rfl)])
          clear HM HM2 HTV
          go_wp2_with (go_at_call 12; refine (cT _).mono ?_; rintro e W1 ⟨rfl, hbx⟩
                       obtain ⟨hown, hbw⟩ := BB.out
                       have ha : Below W1.heap.size W1 (W1.alloc (.cells #[.int .i64 Wh.zero.secs, .bool Wh.zero.utc, .bool Wh.zero.date] 32)) := (Below.refl _ W1).alloc (Nat.le_refl _) _
                       have HB1 := Lib.hid (bstepB hbw hsz (bstep hbx ha))
                       clear hown hbw ha hbx)
          go_ret2
          exact ⟨_, by rw [HF.out]; rfl, by rw [HF.out]; exact World.ownsRow_nil _ _ _ _, bstep hb1 HB1.out⟩
      · obtain rfl : k = ps.length := by omega
        have HF : Hid (timesV s.data.toList = (ws, 0)) := Lib.hid (by
          have := HM.out
          rw [List.take_length] at this
          rw [HTV.out, this])
        clear HM HTV
        go_wp2
        go_ret2
        exact ⟨_, by rw [HF.out]; rfl, by rw [HF.out]; exact row_base hown hs1, bstep hb1 hbw⟩
end Go.Proofs.YtdilnofolnabdaaDoor

/-
  The document's own answers of layer 13: whether two rows of times are the same.
-/
namespace Go.Proofs.YtdilnofolnabdaaDoor
open Go.RowKit

theorem whC_cons (x : Wh) (l : List Wh) : whC (x :: l) = .int .i64 x.secs :: .bool x.utc :: .bool x.date :: whC l := rfl
theorem whC_at : ∀ (l : List Wh) (k : Nat) (h : k < l.length), (whC l)[k * 3]? = some (.int .i64 l[k].secs) ∧ (whC l)[k * 3 + 1]? = some (.bool l[k].utc) ∧ (whC l)[k * 3 + 2]? = some (.bool l[k].date)
  | [], k, h => by simp at h
  | x :: l, 0, _ => ⟨rfl, rfl, rfl⟩
  | x :: l, k + 1, h => by
    have := whC_at l k (by simpa using h)
    rw [whC_cons]
    rw [show (k + 1) * 3 = k * 3 + 1 + 1 + 1 by omega]
    simp only [List.getElem?_cons_succ, List.getElem_cons_succ]
    exact this
theorem own_slice {W : World} {b e size n : Nat} {v : Value} {xs : List Value} (h : W.ownsRow b e size v n xs) : ∃ A cap, v = .slice A n cap ∧ n ≤ maxLen := by
  rcases h.2 with ⟨rfl, rfl⟩ | ⟨g, cap, cur, rfl, _, _, hn, hc, _⟩
  · exact ⟨none, 0, rfl, by unfold maxLen; omega⟩
  · exact ⟨_, cap, rfl, by omega⟩
theorem take_same {a b : List Wh} (h : a.take a.length = b.take a.length) (hl : a.length = b.length) : a = b := by
  rw [List.take_length, hl, List.take_length] at h; exact h
theorem take_on {a b : List Wh} {k : Nat} (h : a.take k = b.take k) (ha : k < a.length) (hb : k < b.length) (e : a[k] = b[k]) : a.take (k + 1) = b.take (k + 1) := by
  rw [List.take_succ_eq_append_getElem ha, List.take_succ_eq_append_getElem hb, h, e]
set_option maxRecDepth 100000 in
set_option maxHeartbeats 8000000 in
theorem refWhens13_any (va vb : Value) (la lb : List Wh) (B1 B2 : Nat) (w : World) (ra : w.ownsRow B1 32 3 va la.length (whC la)) (rb : w.ownsRow B2 32 3 vb lb.length (whC lb)) (hla : la.length ≤ 1000) (hlb : lb.length ≤ 1000) :
    Calls Tryd.prog 17 #[va, vb] w fun e w' => e = .returned (.bool (decide (la = lb))) ∧ Below w.heap.size w w' := by
  by_cases hl : la.length = lb.length
  · by_cases h0 : la.length = 0
    · have e1 : la = [] := List.length_eq_zero_iff.1 h0
      have e2 : lb = [] := List.length_eq_zero_iff.1 (by omega)
      subst e1 e2
      obtain ⟨A, c, rfl, _⟩ := own_slice ra
      obtain ⟨A2, c2, rfl, _⟩ := own_slice rb
      simp only [List.length_nil]
      clear ra rb hl h0 hla hlb
      go_enter Tryd.func17, Tryd.ntmps17
      go_wp2
      go_loopw [5] (fun p wr => p = .int .i64 0 ∧ wr = w) (fun _ _ => 0)
      case atStart => exact ⟨rfl, rfl⟩
      case round =>
        obtain ⟨rfl, rfl⟩ := hrel
        go_wp2
        go_ret
        exact ⟨rfl, Below.refl _ _⟩
    · obtain ⟨g, c, rfl, _, hg, hc1, hc2⟩ := own_some ra (by omega)
      obtain ⟨g2, c2, rfl, _, hg2, hc3, hc4⟩ := own_some rb (by omega)
      have RA := Lib.hid ra
      have RB := Lib.hid rb
      clear ra rb
      obtain ⟨n, hn⟩ : ∃ n, la.length = n := ⟨_, rfl⟩
      have hn2 : lb.length = n := by omega
      rw [hn] at RA ⊢
      rw [hn2] at RB ⊢
      have q0 : ((n : Int) == (n : Int)) = true := by simp
      go_enter Tryd.func17, Tryd.ntmps17
      go_wp2
      go_loopw [5] (fun p wr => ∃ k : Nat, p = .int .i64 k ∧ k ≤ n ∧ Below w.heap.size w wr ∧ Hid (la.take k = lb.take k)) (fun p _ => n - (intOf p).toNat)
      case atStart => exact ⟨0, rfl, Nat.zero_le _, Below.refl _ _, Lib.hid rfl⟩
      case round =>
        obtain ⟨k, rfl, hk, hbw, HT⟩ := hrel
        have hmx : Tryd.prog.follows .mixedOrders = true := by kernel_rfl
        have RA2 := Lib.hid (own_below RA.out hbw)
        have RB2 := Lib.hid (own_below RB.out hbw)
        have HBW := Lib.hid hbw
        clear hbw
        by_cases hlt : k < n
        · have h1 : (k : Int) < (n : Int) := by omega
          have hka : k < la.length := by omega
          have hkb : k < lb.length := by omega
          obtain ⟨a0, a1, a2⟩ := whC_at la k hka
          obtain ⟨b0, b1, b2⟩ := whC_at lb k hkb
          rw [← RA2.out.cellAt (k * 3) (by omega)] at a0
          rw [← RA2.out.cellAt (k * 3 + 1) (by omega)] at a1
          rw [← RA2.out.cellAt (k * 3 + 2) (by omega)] at a2
          rw [← RB2.out.cellAt (k * 3) (by omega)] at b0
          rw [← RB2.out.cellAt (k * 3 + 1) (by omega)] at b1
          rw [← RB2.out.cellAt (k * 3 + 2) (by omega)] at b2
          have HE := Lib.hid (fun e => take_on HT.out hka hkb e)
          have HNE : Hid (la[k] ≠ lb[k] → ¬ la = lb) := Lib.hid (fun h e => h (by subst e; rfl))
          generalize la[k] = x at a0 a1 a2 HE HNE
          generalize lb[k] = y at b0 b1 b2 HE HNE
          by_cases he : x = y
          · subst he
            have HT2 := Lib.hid (HE.out rfl)
            clear HE HNE HT
            go_wp2
            go_region
            go_wp2
            go_round
            case rel => exact ⟨k + 1, by go_num, by omega, HBW.out.drew, HT2⟩
            case measure => simp [intOf]; omega
          · have HF : Hid (decide (la = lb) = false) := Lib.hid (decide_eq_false (HNE.out he))
            have hw := wh_ne he
            obtain ⟨xs, xu, xd⟩ := x
            obtain ⟨ys, yu, yd⟩ := y
            simp only at a0 a1 a2 b0 b1 b2 hw
            clear HE HNE HT he
            rcases hw with h | ⟨rfl, h⟩ | ⟨rfl, rfl, h⟩
            · go_wp2
              go_region
              go_wp2
              go_ret
              exact ⟨by rw [HF.out]; rfl, HBW.out.drew⟩
            · go_wp2
              go_region
              go_wp2
              go_ret
              exact ⟨by rw [HF.out]; rfl, HBW.out.drew⟩
            · go_wp2
              go_region
              go_wp2
              go_ret
              exact ⟨by rw [HF.out]; rfl, HBW.out.drew⟩
        · obtain rfl : k = n := by omega
          have HF : Hid (decide (la = lb) = true) := Lib.hid (decide_eq_true (take_same (by rw [hn]; exact HT.out) hl))
          clear HT
          go_wp2
          go_ret
          exact ⟨by rw [HF.out]; rfl, HBW.out⟩
  · have HF : Hid (decide (la = lb) = false) := Lib.hid (decide_eq_false (fun e => hl (by rw [e])))
    obtain ⟨A, c, rfl, _⟩ := own_slice ra
    obtain ⟨A2, c2, rfl, _⟩ := own_slice rb
    have hi : ¬ ((la.length : Nat) : Int) = ((lb.length : Nat) : Int) := by omega
    have z1 : (((la.length : Nat) : Int) == ((lb.length : Nat) : Int)) = false := by rw [beq_eq_false_iff_ne]; exact hi
    have z2 : (((la.length : Nat) : Int) != ((lb.length : Nat) : Int)) = true := by simpa using hi
    generalize la.length = x at hi z1 z2 hla ⊢
    generalize lb.length = y at hi z1 z2 hlb ⊢
    clear ra rb hl
    go_enter Tryd.func17, Tryd.ntmps17
    go_wp2
    go_ret
    exact ⟨by rw [HF.out]; rfl, Below.refl _ _⟩
end Go.Proofs.YtdilnofolnabdaaDoor
