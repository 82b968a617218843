/-
  The document's own answers of layer 8: a text cut at every byte of a kind.
-/
import Derived.Test.YtnidkcedomhofaaGreatDoorG40
import Derived.Test.YtnidkcedomhofaaGreatDoorG18
import Derived.WalkSpells
import Derived.WalkLawsBesides
import Derived.Test.YtnidkcedomhofaaGreatDoorG10
import Derived.Test.YtnidkcedomhofaaGreatDoorG03
import Derived.Test.YtnidkcedomhofaaGreatDoorG39
namespace Go.Proofs.YtnidkcedomhofaaGreatDoor
open Go.RowKit

theorem infoSV : (Tryz.prog.info? 9).map (fun i => (i.zero, i.size, i.bytes)) = some (some (.string ⟨#[]⟩), 1, 16) := by kernel_rfl
/-- Where the cutting stands. -/
def SpI (c : UInt8) (s : ByteArray) (a k : Nat) (ps : List (List UInt8)) : Prop :=
  (k ≤ s.size ∧ a ≤ k ∧ splitC c [] s.data.toList = ps ++ splitC c ((s.data.toList.drop a).take (k - a)) (s.data.toList.drop k)) ∨ (k = s.size + 1 ∧ splitC c [] s.data.toList = ps)
theorem piece_mk (s : ByteArray) (a b : Nat) : s.extract a b = ⟨((s.data.toList.drop a).take (b - a)).toArray⟩ := bytesR (by rw [cutR, mk_listR])
theorem pcC_snoc (s : ByteArray) (a k : Nat) (ps : List (List UInt8)) : pcC ps ++ [.string (s.extract a k)] = pcC (ps ++ [(s.data.toList.drop a).take (k - a)]) := by
  rw [piece_mk]; simp [pcC]
set_option maxRecDepth 100000 in
set_option maxHeartbeats 8000000 in
theorem refSplit_any (c : UInt8) (s : ByteArray) (hs : s.size ≤ 1048576) (w : World) :
    Calls Tryz.prog 16 #[.string s, .int .u8 (c.toNat : Int)] w fun e w' => ∃ v, e = .returned v ∧ w'.ownsRow w.heap.size 9 1 v (splitC c [] s.data.toList).length (pcC (splitC c [] s.data.toList)) ∧ Below w.heap.size w w' := by
  obtain ⟨i0, hi, hz0, hz1, hz2⟩ := info_parts infoSV
  go_enter Tryz.func16, Tryz.ntmps16
  go_wp2
  go_loopw [5, 6, 7] (fun v av p wr => ∃ (a k : Nat) (ps : List (List UInt8)), av = .int .i64 a ∧ p = .int .i64 k ∧ k ≤ s.size + 1 ∧ ps.length ≤ k ∧ a ≤ s.size + 1 ∧ wr.ownsRow w.heap.size 9 1 v ps.length (pcC ps) ∧ Below w.heap.size w wr ∧ Hid (SpI c s a k ps)) (fun _ _ p _ => s.size + 1 - (intOf p).toNat)
  case atStart => exact ⟨0, 0, [], rfl, rfl, Nat.zero_le _, Nat.le_refl _, Nat.zero_le _, World.ownsRow_nil _ _ _ _, Below.refl _ _, Lib.hid (.inl ⟨Nat.zero_le _, Nat.le_refl _, by simp⟩)⟩
  case round =>
    obtain ⟨a, k, ps, rfl, rfl, hk, hpl, ha, hown, hbw, HS⟩ := hrel
    have hsz := hbw.size
    by_cases hlt : k < s.size
    · obtain ⟨_, hak, he⟩ : k ≤ s.size ∧ a ≤ k ∧ splitC c [] s.data.toList = ps ++ splitC c ((s.data.toList.drop a).take (k - a)) (s.data.toList.drop k) := by
        rcases HS.out with h | h
        · exact h
        · omega
      have h1 : (k : Int) ≤ (s.size : Int) := by omega
      have h2 : ((k : Int) == (s.size : Int)) = false := by rw [beq_eq_false_iff_ne]; omega
      have h3 : (a : Int) ≤ (k : Int) := by omega
      by_cases hc : s[k] = c
      · have HV : Hid (SpI c s (k + 1) (k + 1) (ps ++ [(s.data.toList.drop a).take (k - a)])) := Lib.hid (.inl ⟨by omega, Nat.le_refl _, by
          rw [he, dropR hlt, hc, splitC_com]
          simp⟩)
        have HC := Lib.hid (pcC_snoc s a k ps)
        have z1 : (((s[k].toNat : Nat) : Int) == ((c.toNat : Nat) : Int)) = true := by rw [hc]; simp
        clear HS he hc
        go_wp2_with (at_builtin; refine wpList_append_own _ rfl _ _ 39 rfl w.heap.size 9 i0 (.string ⟨#[]⟩) 1 16 Tryz.underlying39 hi hz0 hz1 hz2 rfl (by decide) _ _ _ rfl (hown.alloc _) ⟨_, 0, none⟩ 1 1 [.string (s.extract a k)] rfl rfl (cells_newV _ [.string (s.extract a k)] _) (by simp [Value.oneCell']) (by unfold maxLen; omega) (by omega) (by simp; omega) ?_; intro v' w1 hown1 hgrow1 _)
        go_round
        case rel =>
          refine ⟨k + 1, k + 1, _, by go_num, by go_num, by omega, ?_, by omega, ?_, below_append hbw hsz hown hgrow1, HV⟩
          · simp; omega
          · rw [HC.out] at hown1
            simpa using hown1
        case measure => simp [intOf]; omega
      · have hci : ¬ (((s[k].toNat : Nat) : Int) = ((c.toNat : Nat) : Int)) := fun h => hc (UInt8.toNat_inj.1 (by omega))
        obtain ⟨z1, z2⟩ := intNe hci
        have HV : Hid (SpI c s a (k + 1) ps) := Lib.hid (.inl ⟨by omega, by omega, by
          rw [he, dropR hlt, splitC_on hc, takeB hak hlt]⟩)
        clear HS he hc
        go_wp2
        go_round
        case rel => exact ⟨a, k + 1, ps, rfl, by go_num, by omega, by omega, by omega, hown, hbw, HV⟩
        case measure => simp [intOf]; omega
    · by_cases hke : k = s.size
      · subst hke
        obtain ⟨_, hak, he⟩ : s.size ≤ s.size ∧ a ≤ s.size ∧ splitC c [] s.data.toList = ps ++ splitC c ((s.data.toList.drop a).take (s.size - a)) (s.data.toList.drop s.size) := by
          rcases HS.out with h | h
          · exact h
          · omega
        have h1 : (s.size : Int) ≤ (s.size : Int) := by omega
        have h2 : ((s.size : Int) == (s.size : Int)) = true := by simp
        have h3 : (a : Int) ≤ (s.size : Int) := by omega
        have HV : Hid (SpI c s (s.size + 1) (s.size + 1) (ps ++ [(s.data.toList.drop a).take (s.size - a)])) := Lib.hid (.inr ⟨by omega, by
          rw [he, show s.data.toList.drop s.size = [] from List.drop_of_length_le (by rw [listR]; omega)]; rfl⟩)
        have HC := Lib.hid (pcC_snoc s a s.size ps)
        clear HS he
        go_wp2_with (at_builtin; refine wpList_append_own _ rfl _ _ 39 rfl w.heap.size 9 i0 (.string ⟨#[]⟩) 1 16 Tryz.underlying39 hi hz0 hz1 hz2 rfl (by decide) _ _ _ rfl (hown.alloc _) ⟨_, 0, none⟩ 1 1 [.string (s.extract a s.size)] rfl rfl (cells_newV _ [.string (s.extract a s.size)] _) (by simp [Value.oneCell']) (by unfold maxLen; omega) (by omega) (by simp; omega) ?_; intro v' w1 hown1 hgrow1 _)
        go_round
        case rel =>
          refine ⟨s.size + 1, s.size + 1, _, by go_num, by go_num, by omega, ?_, by omega, ?_, below_append hbw hsz hown hgrow1, HV⟩
          · simp; omega
          · rw [HC.out] at hown1
            simpa using hown1
        case measure => simp [intOf]
      · have hk2 : k = s.size + 1 := by omega
        have he : splitC c [] s.data.toList = ps := by
          rcases HS.out with h | h
          · omega
          · exact h.2
        have h1 : ¬ (k : Int) ≤ (s.size : Int) := by omega
        have HE := Lib.hid he
        clear HS he
        go_wp2
        go_ret
        exact ⟨_, rfl, by rw [HE.out]; exact hown, hbw⟩
end Go.Proofs.YtnidkcedomhofaaGreatDoor

/-
  A text with small letters, as the program and as the document make it.
-/
namespace Go.Proofs.YtnidkcedomhofaaGreatDoor
open Go.RowKit

/-- The first k with small letters. -/
def lowK (l : List UInt8) (k : Nat) : List UInt8 := lowL (l.take k) ++ l.drop k
theorem lowK_zero (l : List UInt8) : lowK l 0 = l := by simp [lowK, lowL]
theorem lowK_all {l : List UInt8} {k : Nat} (h : l.length ≤ k) : lowK l k = lowL l := by simp [lowK, List.take_of_length_le h, List.drop_eq_nil_of_le h]
theorem lowK_length (l : List UInt8) (k : Nat) : (lowK l k).length = l.length := by simp [lowK, lowL]; omega
theorem lowK_get {l : List UInt8} {k : Nat} : (lowK l k).getD k 0 = l.getD k 0 := by
  unfold lowK
  rw [List.getD_eq_getElem?_getD, List.getD_eq_getElem?_getD]
  by_cases hk : k < l.length
  · rw [List.getElem?_append_right (by simp [lowL]; omega)]
    simp [lowL, Nat.min_eq_left (Nat.le_of_lt hk)]
  · rw [List.getElem?_eq_none (by simp [lowL]; omega), List.getElem?_eq_none (by omega)]
theorem lowK_set {l : List UInt8} {k : Nat} (hk : k < l.length) : (lowK l k).set k (lowC (l.getD k 0)) = lowK l (k + 1) := by
  unfold lowK
  have e1 : (lowL (l.take k)).length = k := by simp [lowL]; omega
  rw [List.set_append_right k _ (by omega), e1, Nat.sub_self, List.drop_eq_getElem_cons hk, List.set_cons_zero, List.take_succ_eq_append_getElem hk, lowL_append]
  simp [lowL, List.getD_eq_getElem?_getD, hk]

end Go.Proofs.YtnidkcedomhofaaGreatDoor

/-
  A text with small letters, as the document makes it; two texts that are alike.
-/
namespace Go.Proofs.YtnidkcedomhofaaGreatDoor
open Go.RowKit

theorem lowK_keep {l : List UInt8} {k : Nat} (hk : k < l.length) (h : lowC (l.getD k 0) = l.getD k 0) : lowK l k = lowK l (k + 1) := by
  rw [← lowK_set hk, h, ← lowK_get (l := l) (k := k)]
  have hk' : k < (lowK l k).length := by rw [lowK_length]; exact hk
  rw [List.getD_eq_getElem?_getD, List.getElem?_eq_getElem hk']
  simp
theorem lowC_keep {x : UInt8} (h : ¬ (65 ≤ x.toNat ∧ x.toNat ≤ 90)) : lowC x = x := by
  apply UInt8.toNat_inj.1
  rw [lowC_nat]
  unfold lowN
  rw [if_neg h]
theorem lowC_turn {x : UInt8} (h : 65 ≤ x.toNat ∧ x.toNat ≤ 90) : (lowC x).toNat = x.toNat + 32 := by
  rw [lowC_nat]
  unfold lowN
  rw [if_pos h]

set_option maxRecDepth 100000 in
set_option maxHeartbeats 2000000 in
theorem refLower_any (s : ByteArray) (hs : s.size ≤ 16777216) (w : World) :
    Calls Tryz.prog 17 #[.string s] w fun e w' => e = .returned (.string ⟨(lowL s.data.toList).toArray⟩) ∧ Below w.heap.size w w' := by
  have hcv := run_bytes_of_string (P := Tryz.prog) w 9 72 5 s Tryz.underlying9 Tryz.underlying72 Tryz.underlying5
  have hb0 := Byt.of_text w 5 s (grownCap w s.size 0 5)
  have hl0 := Byt.of_text_below w 5 s (grownCap w s.size 0 5)
  generalize hC : grownCap w s.size 0 5 = C at hcv hb0 hl0
  generalize w.drew.alloc (.cells (bytesRow s C) 5 ((bytesRow s C).size, (bytesRow s C).size + 1)) = w1 at hcv hb0 hl0
  generalize hg : w.heap.size = g at hcv hb0 hl0 ⊢
  have HG := Lib.hid hg; clear hg
  have hlen := Lib.hid (bsize s)
  have HB := Lib.hid hb0; have HL := Lib.hid hl0
  clear hb0 hl0 hC
  go_enter Tryz.func17, Tryz.ntmps17
  go_wp2
  clear hcv
  go_loopw [4] (fun p wr => ∃ k : Nat, p = .int .i64 k ∧ k ≤ s.size ∧ Hid (Byt wr g (lowK s.data.toList k)) ∧ Hid (Below g w wr)) (fun p _ => s.size - (intOf p).toNat)
  case atStart => exact ⟨0, rfl, Nat.zero_le _, Lib.hid (by rw [lowK_zero]; exact HB.out), HL⟩
  case round =>
    obtain ⟨k, rfl, hk, HB1, HL1⟩ := hrel
    by_cases hlt : k < s.size
    · have hce := HB1.out.cell k (by rw [lowK_length, ← hlen.out]; exact hlt)
      have hfr := HB1.out.free k (by rw [lowK_length, ← hlen.out]; exact hlt)
      rw [lowK_get] at hce
      obtain ⟨x, hx⟩ : ∃ x, x = s.data.toList.getD k 0 := ⟨_, rfl⟩
      rw [← hx] at hce
      have HX := Lib.hid hx; clear hx
      have hxb := x.toNat_lt
      by_cases h1 : 65 ≤ x.toNat
      · by_cases h2 : x.toNat ≤ 90
        · go_wp2
          have HB2 := Lib.hid (HB1.out.set k (lowC x))
          have HL2 := Lib.hid (HL1.out.setCell (p := ⟨g, k, none⟩) (Nat.le_refl _) (.int .u8 ((lowC x).toNat : Int)))
          rw [HX.out, lowK_set (by rw [← hlen.out]; exact hlt), ← HX.out, lowC_turn ⟨h1, h2⟩] at HB2
          rw [lowC_turn ⟨h1, h2⟩] at HL2
          go_round
          case rel => exact ⟨k + 1, by go_num, by omega, HB2, HL2⟩
          case measure => simp [intOf]; omega
        · have HB2 : Hid (Byt wr g (lowK s.data.toList (k + 1))) := Lib.hid (by rw [← lowK_keep (by rw [← hlen.out]; exact hlt) (by rw [← HX.out]; exact lowC_keep (by omega))]; exact HB1.out)
          go_wp2
          go_round
          case rel => exact ⟨k + 1, by go_num, by omega, HB2, HL1⟩
          case measure => simp [intOf]; omega
      · have HB2 : Hid (Byt wr g (lowK s.data.toList (k + 1))) := Lib.hid (by rw [← lowK_keep (by rw [← hlen.out]; exact hlt) (by rw [← HX.out]; exact lowC_keep (by omega))]; exact HB1.out)
        go_wp2
        go_round
        case rel => exact ⟨k + 1, by go_num, by omega, HB2, HL1⟩
        case measure => simp [intOf]; omega
    · obtain rfl : k = s.size := by omega
      have hcv2 := HB1.out.conv (P := Tryz.prog) Tryz.underlying72 Tryz.underlying5 Tryz.underlying9 C s.size (by rw [lowK_length, ← hlen.out])
      rw [lowK_all (by rw [← hlen.out]; exact Nat.le_refl _)] at hcv2
      go_wp2
      go_ret
      exact ⟨rfl, HL1.out⟩

theorem eqL (a b : List UInt8) : (a == b) = decide (a = b) := by
  by_cases h : a = b
  · subst h; simp
  · rw [decide_eq_false h, beq_eq_false_iff_ne]
    exact h

end Go.Proofs.YtnidkcedomhofaaGreatDoor

/-
  RuleOrder: the order of a rule's parts, and small letters, change nothing.
-/
namespace Go.Proofs.YtnidkcedomhofaaGreatDoor
open Go.RowKit

set_option maxRecDepth 100000 in
set_option maxHeartbeats 8000000 in
theorem order14_any (r : RuV) (v1 v2 v3 v4 : Value) (w : World) (hv : VV w) (hu : UOk r) (h : RuS w r v1 v2 v3 v4) :
    Calls Tryz.prog 6 #[ruV r v1 v2 v3 v4] w fun e w' => e = .returned (.bool true) ∧ Below w.heap.size w w' := by
  obtain ⟨a01, e01, rfl⟩ := h.s1.lit
  obtain ⟨a02, e02, rfl⟩ := h.s2.lit
  obtain ⟨a03, e03, rfl⟩ := h.s3.lit
  obtain ⟨a04, e04, rfl⟩ := h.s4.lit
  have K0 := Lib.hid (KA.new (Below.refl w.heap.size w) hv h)
  have HU := Lib.hid hu
  clear h hv hu
  unfold ruV
  go_enter Tryz.func6, Tryz.ntmps6
  go_upto_region 1 with fail
  generalize w.alloc (.cells #[.int .i64 r.freq, .int .i64 r.intv, .int .i64 r.cnt, .bool r.has, .int .i64 r.unt.secs, .bool r.unt.utc, .bool r.unt.date, .slice a01 r.mon.length e01, .slice a02 r.md.length e02, .slice a03 r.dys.length e03, .slice a04 r.pos.length e04, .int .i64 r.wk] 27) = w0 at K0 ⊢
  obtain ⟨x0, x1, x2, x3, x4, x5, x6, x7, x8, x9, x10, x11⟩ := K0.out.var.cells
  have cp := pPrint14_any r _ _ _ _ w0 K0.out.vv HU.out K0.out.rs
  unfold ruV at cp
  go_wp2_with fail
  refine cp.mono ?_
  rintro e w1 ⟨rfl, hb1⟩
  have K1 := Lib.hid (K0.out.step hb1)
  clear hb1 K0 cp x0 x1 x2 x3 x4 x5 x6 x7 x8 x9 x10 x11
  have hpz := prnV_len (r := r)
  obtain ⟨T, hT⟩ : ∃ T : ByteArray, T = mkB (prnV r) := ⟨_, rfl⟩
  rw [← hT]
  have hTl : T.data.toList = prnV r := by rw [hT]; simp [mkB]
  have hTs : T.size ≤ 100000 := by rw [bsize, hTl]; exact hpz
  clear hT hpz
  by_cases hz : prnV r = []
  · have hz1 : (!T.toList.isEmpty) = false := by rw [Lib.toList_data, hTl, hz]; rfl
    have hz2 : T.toList.isEmpty = true := by rw [Lib.toList_data, hTl, hz]; rfl
    have hz3 : (T.toList == []) = true := by rw [Lib.toList_data, hTl, hz]; rfl
    clear hTl hTs hz
    go_wp2_with (go_at_call 10; refine (awake14_any _ K1.out.vv).mono ?_; rintro e w5 ⟨rfl, hb5⟩; have B5 := Lib.hid (bstep K1.out.bel hb5); clear hb5)
    go_ret
    exact ⟨rfl, B5.out⟩
  · have hF := prnV_fit hz
    have hz1 : (!T.toList.isEmpty) = true := by rw [Lib.toList_data, hTl]; cases hp : prnV r <;> simp_all
    have hz2 : T.toList.isEmpty = false := by simpa using hz1
    have hz3 : (T.toList == []) = false := by rw [Lib.toList_data, hTl]; cases hp : prnV r <;> simp_all
    have cS := refSplit_any 59 T (by omega) w1
    rw [hTl, split_prn hF] at cS
    have hPF := part_facts hF
    have hPC := parts_count r
    have hRV := parV_rev hF
    have hNE := partsV_ne r
    generalize partsV r = P at cS hPF hPC hRV hNE
    have HNE := Lib.hid hNE
    clear hNE
    have HPF := Lib.hid hPF
    have HRV := Lib.hid hRV
    have HF := Lib.hid hF
    clear hPF hRV hF hz hTl hTs
    rw [show (((59 : UInt8).toNat : Nat) : Int) = 59 from rfl] at cS
    go_wp2_with (go_at_call 16; refine cS.mono ?_; rintro e w2 ⟨v, rfl, ho, hb2⟩; clear cS
                 obtain ⟨g, cap, rfl⟩ : ∃ g cap, v = .slice (some ⟨g, 0, none⟩) P.length cap := by
                   rcases own_nil_or ho with rfl | ⟨g, cap, rfl, _⟩
                   · rcases ho.2 with ⟨_, h0⟩ | ⟨g, cap, cur, hv, _⟩
                     · exact absurd (List.eq_nil_of_length_eq_zero h0) HNE.out
                     · cases hv
                   · exact ⟨g, cap, rfl⟩
                 have HC : Hid (∀ (j : Nat) (p : List UInt8), P[j]? = some p → w2.cell? ⟨g, 0 + j, none⟩ = some (.string ⟨p.toArray⟩) ∧ g < w2.heap.size) := Lib.hid (fun j p hj => by
                   have ea : (⟨g, 0, none⟩ : Addr).add j = ⟨g, 0 + j, none⟩ := by unfold Addr.add; split <;> simp_all
                   have := ho.cells (g := g) rfl j (.string ⟨p.toArray⟩) (by simp [pcC, hj])
                   rw [ea] at this
                   exact ⟨this, World.block_lt_of_cell? _ _ this⟩)
                 have K2 := Lib.hid (K1.out.step hb2)
                 clear hb2 ho K1)
    go_loopw [4, 17] (fun b k wr => ∃ (i : Nat) (B : ByteArray), b = .string B ∧ k = .int .i64 i ∧ i ≤ P.length ∧ Hid (B.data.toList = bkL (P.take i) ∧ KA w wr w.heap.size r (.slice a01 r.mon.length e01) (.slice a02 r.md.length e02) (.slice a03 r.dys.length e03) (.slice a04 r.pos.length e04) ∧ Below w2.heap.size w2 wr)) (fun _ k _ => P.length - (intOf k).toNat)
    case atStart => exact ⟨0, ⟨#[]⟩, rfl, rfl, Nat.zero_le _, Lib.hid ⟨rfl, K2.out, Below.refl _ _⟩⟩
    case round =>
      obtain ⟨i, B, rfl, rfl, hi, HJ⟩ := hrel
      by_cases hlt : i < P.length
      · obtain ⟨p, hp⟩ : ∃ p, P[i]? = some p := ⟨P[i], List.getElem?_eq_getElem hlt⟩
        have hc := HC.out i p hp
        have x := (HJ.out.2.2.cell (p := ⟨g, 0 + i, none⟩) hc.2).trans hc.1
        rw [Nat.zero_add] at x
        have hpm := HPF.out p (List.mem_of_getElem? hp)
        have cl := fun W => refLower_any ⟨p.toArray⟩ (by rw [mk_size]; omega) W
        rw [mk_listV] at cl
        have HT : Hid (P.take (i + 1) = P.take i ++ [p]) := Lib.hid (by rw [List.take_add_one, hp]; rfl)
        have HN0 : Hid (0 < i → P.take i ≠ []) := Lib.hid (fun h e => by
          have := congrArg List.length e
          rw [List.length_take, List.length_nil] at this
          omega)
        have hBs : B.size ≤ 40000 := by
          rw [bsize, HJ.out.1]
          have h1 := bkL_len (M := 3000) (ps := P.take i) (fun q hq => (HPF.out q (List.mem_of_mem_take hq)).2)
          have h2 : (P.take i).length ≤ 9 := by rw [List.length_take]; omega
          omega
        have hLs : (lowL p).length ≤ 3000 := by rw [lowL_len]; exact hpm.2
        clear hc hpm hp
        by_cases h0 : i = 0
        · subst h0
          have hB0 : B.data.toList = [] := by have := HJ.out.1; rw [this]; rfl
          have z1 : (!B.toList.isEmpty) = false := by rw [Lib.toList_data, hB0]; rfl
          have z2 : B.toList.isEmpty = true := by rw [Lib.toList_data, hB0]; rfl
          have z3 : (B.toList == []) = true := by rw [Lib.toList_data, hB0]; rfl
          have z4 : (B.toList != []) = false := by rw [Lib.toList_data, hB0]; rfl
          have HL : Hid ((⟨(lowL p).toArray⟩ ++ B : ByteArray).data.toList = bkL (P.take (0 + 1))) := Lib.hid (by
            rw [HT.out, List.take_zero, List.nil_append, bkL_one]
            simp [hB0])
          clear hB0
          go_wp2_with (go_at_call 17; refine (cl _).mono ?_; rintro e w3 ⟨rfl, hb3⟩; clear cl
                       have HJ3 := Lib.hid (And.intro (HJ.out.2.1.step hb3) (bstep HJ.out.2.2 hb3)))
          go_round
          case rel => exact ⟨0 + 1, _, rfl, by go_num, by omega, Lib.hid ⟨HL.out, HJ3.out.1, HJ3.out.2⟩⟩
          case measure => simp [intOf]; omega
        · have hne := HN0.out (by omega)
          have hB0 : B.data.toList ≠ [] := by
            rw [HJ.out.1]
            obtain ⟨ps, q, hq⟩ : ∃ ps q, P.take i = ps ++ [q] := ⟨_, _, (List.dropLast_concat_getLast hne).symm⟩
            rw [hq]
            by_cases hps : ps = []
            · subst hps
              rw [List.nil_append, bkL_one]
              have hqm : q ∈ P := List.mem_of_mem_take (i := i) (by rw [hq]; simp)
              have := (HPF.out q hqm).1
              intro e
              have e2 := congrArg List.length e
              rw [lowL_len] at e2
              exact this (List.eq_nil_of_length_eq_zero e2)
            · rw [bkL_snoc hps]; simp
          have z1 : (!B.toList.isEmpty) = true := by rw [Lib.toList_data]; cases hx : B.data.toList <;> simp_all
          have z2 : B.toList.isEmpty = false := by simpa using z1
          have z3 : (B.toList == []) = false := by rw [Lib.toList_data]; cases hx : B.data.toList <;> simp_all
          have z4 : (B.toList != []) = true := by rw [Lib.toList_data]; cases hx : B.data.toList <;> simp_all
          have HL : Hid ((⟨(lowL p).toArray⟩ ++ (⟨#[59]⟩ ++ B) : ByteArray).data.toList = bkL (P.take (i + 1))) := Lib.hid (by
            rw [HT.out, bkL_snoc hne, ← HJ.out.1]
            simp)
          clear hB0 hne h0
          go_wp2_with (go_at_call 17; refine (cl _).mono ?_; rintro e w3 ⟨rfl, hb3⟩; clear cl
                       have HJ3 := Lib.hid (And.intro (HJ.out.2.1.step hb3) (bstep HJ.out.2.2 hb3)))
          go_round
          case rel => exact ⟨i + 1, _, rfl, by go_num, by omega, Lib.hid ⟨HL.out, HJ3.out.1, HJ3.out.2⟩⟩
          case measure => simp [intOf]; omega
      · obtain rfl : i = P.length := by omega
        have hB := HJ.out.1
        rw [List.take_length] at hB
        have hBz : B.size ≤ 100000 := by
          rw [bsize, hB]
          have := bkL_len (M := 3000) (fun q hq => (HPF.out q hq).2)
          omega
        have c3 := fun W (hV : VV W) => pParse14_any B (by omega) W hV
        unfold RuAns at c3
        rw [hB, show parV (bkL P) = (r, 0) from HRV.out] at c3
        unfold ruV at c3
        simp only at c3
        have cs := fun W v1 v2 v3 v4 u1 u2 u3 u4 (h1 : RuS W r v1 v2 v3 v4) (h2 : RuS W r u1 u2 u3 u4) => refSame14_any r r v1 v2 v3 v4 u1 u2 u3 u4 W h1 h2
        simp only [decide_true] at cs
        unfold ruV at cs
        have K3 := Lib.hid HJ.out.2.1
        clear hB hBz HJ K2
        go_wp2_with (first
        | (go_at_call 7; (with_reducible refine (c3 _ K3.out.vv).mono ?_); rintro e w5 ⟨u1, u2, u3, u4, rfl, hs5, hb5⟩; clear c3
           obtain ⟨a21, e21, rfl⟩ := hs5.s1.lit
           obtain ⟨a22, e22, rfl⟩ := hs5.s2.lit
           obtain ⟨a23, e23, rfl⟩ := hs5.s3.lit
           obtain ⟨a24, e24, rfl⟩ := hs5.s4.lit
           have N5 := K3.out.step hb5
           have M5 := Lib.hid (KA.new N5.bel N5.vv hs5)
           have N6 := Lib.hid (N5.step ((Below.refl w5.heap.size w5).alloc (Nat.le_refl _) (.cells #[.int .i64 r.freq, .int .i64 r.intv, .int .i64 r.cnt, .bool r.has, .int .i64 r.unt.secs, .bool r.unt.utc, .bool r.unt.date, .slice a21 r.mon.length e21, .slice a22 r.md.length e22, .slice a23 r.dys.length e23, .slice a24 r.pos.length e24, .int .i64 r.wk] 27)))
           clear hs5 hb5 N5 K3
           obtain ⟨x0, x1, x2, x3, x4, x5, x6, x7, x8, x9, x10, x11⟩ := N6.out.var.cells
           obtain ⟨y0, y1, y2, y3, y4, y5, y6, y7, y8, y9, y10, y11⟩ := M5.out.var.cells)
        | (go_at_call 9; (with_reducible refine (cs _ _ _ _ _ _ _ _ _ N6.out.rs M5.out.rs).mono ?_); rintro e w8 ⟨rfl, hb8⟩; clear cs x0 x1 x2 x3 x4 x5 x6 x7 x8 x9 x10 x11 y0 y1 y2 y3 y4 y5 y6 y7 y8 y9 y10 y11
           have N8 := Lib.hid (N6.out.step hb8)
           clear hb8 N6 M5)
        | (go_at_call 10; refine (awake14_any _ N8.out.vv).mono ?_; rintro e w9 ⟨rfl, hb9⟩; have B9 := Lib.hid (bstep N8.out.bel hb9); clear hb9))
        go_ret
        exact ⟨rfl, B9.out⟩
end Go.Proofs.YtnidkcedomhofaaGreatDoor
