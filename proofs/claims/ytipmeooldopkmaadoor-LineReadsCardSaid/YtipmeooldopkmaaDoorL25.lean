/-
  The program's reader of a property: what stays true of the machine; the property whole.
-/
import Derived.Test.YtipmeooldopkmaaDoorL24
import Derived.Test.YtipmeooldopkmaaDoorL11
import Derived.Test.YtipmeooldopkmaaDoorL17
import Derived.Test.YtipmeooldopkmaaDoorL13
import Derived.Test.YtipmeooldopkmaaDoorL14
import Derived.Test.YtipmeooldopkmaaDoorL15
import Derived.Test.YtipmeooldopkmaaDoorL19
import Derived.Test.YtipmeooldopkmaaDoorL20
import Derived.Test.YtipmeooldopkmaaDoorL22
namespace Go.Proofs.YtipmeooldopkmaaDoor
open Go.RowKit

theorem RM.first : RM ⟨0, [], [], [], []⟩ := ⟨by decide, fun h => by simp at h, fun _ b hb => by simp at hb⟩
theorem RM.push {m : Mac} {x : UInt8} (h : RM m) (hg : goM m.st x = true) : RM (pushM m x) := by
  refine ⟨h.st, h.ps, fun hs b hb => ?_⟩
  have hs : m.st ≤ 1 := hs
  rcases List.mem_append.1 hb with hb | hb
  · exact h.nb hs b hb
  · obtain rfl : b = x := by simpa using hb
    rcases (show m.st = 0 ∨ m.st = 1 by omega) with e | e <;> rw [e] at hg <;> exact hg
theorem addV_ne {ps : List Par} {v : List UInt8} (h : ps ≠ []) : addV ps v ≠ [] := by
  unfold addV
  cases hl : ps.getLast? with
  | none => simp [List.getLast?_eq_none_iff] at hl; exact absurd hl h
  | some p => simp
theorem RM.done {m : Mac} {x : UInt8} (h : RM m) (he : endsM m x = true) : RM (endM m x) := by
  have hst := h.st
  have e1 : (endM m x).st = nextM m.st x := rfl
  have hn : nextM m.st x ≤ 5 ∧ 1 ≤ nextM m.st x := by unfold nextM; split <;> (try split) <;> (try split) <;> (try split) <;> omega
  refine ⟨by rw [e1]; exact hn.1, fun h2 h4 => ?_, fun h1 b hb => ?_⟩
  · rw [e1] at h2 h4
    show (if x.toNat = 34 then m else keepM m).pars ≠ []
    by_cases h34 : x.toNat = 34
    · rw [if_pos h34]
      refine h.ps ?_ ?_
      · rcases (show m.st = 0 ∨ m.st = 1 ∨ 2 ≤ m.st by omega) with e | e | e
        · unfold endsM at he; rw [e] at he; simp [h34] at he
        · unfold endsM at he; rw [e] at he; simp [h34] at he
        · exact e
      · rcases (show m.st = 5 ∨ m.st ≤ 4 by omega) with e | e
        · unfold endsM at he; rw [e] at he; simp at he
        · exact e
    · rw [if_neg h34]
      have h59 : x.toNat ≠ 59 := fun e => by unfold nextM at h2; rw [if_pos e] at h2; omega
      have h58 : x.toNat ≠ 58 := fun e => by unfold nextM at h4; rw [if_neg h59, if_pos e] at h4; omega
      rcases (show m.st = 0 ∨ m.st = 1 ∨ m.st = 5 ∨ (2 ≤ m.st ∧ m.st ≤ 4) by omega) with e | e | e | ⟨e2, e4⟩
      · unfold endsM at he; rw [e] at he; simp [h59, h58] at he
      · unfold keepM; rw [e]; simp
      · unfold endsM at he; rw [e] at he; simp at he
      · have hp := h.ps e2 e4
        rcases (show m.st = 2 ∨ m.st = 3 ∨ m.st = 4 by omega) with e | e | e <;> (unfold keepM; rw [e]; exact addV_ne hp)
  · exfalso
    revert hb
    rw [e1] at h1
    have h59 : x.toNat = 59 := by
      unfold nextM at h1
      by_cases h : x.toNat = 59
      · exact h
      · rw [if_neg h] at h1
        split at h1 <;> (try split at h1) <;> (try split at h1) <;> omega
    show b ∉ (if x.toNat = 34 then m else keepM m).got
    rw [if_neg (by omega)]
    unfold keepM
    split <;> simp
theorem RP.fin {w W : World} {H : Nat} {m : Mac} {nm vl : ByteArray} {L G : Option Addr} {n c k kc B : Nat} {l : List PR} (h : RP w H W m nm vl L n c l G k kc B) :
    P3 (((W.setCell ⟨w.heap.size, 0, none⟩ (.string nm)).setCell ⟨w.heap.size, 1, none⟩ (.slice L n c)).setCell ⟨w.heap.size, 2, none⟩ (.string vl)) w.heap.size nm vl L n c ∧
    Reads (((W.setCell ⟨w.heap.size, 0, none⟩ (.string nm)).setCell ⟨w.heap.size, 1, none⟩ (.slice L n c)).setCell ⟨w.heap.size, 2, none⟩ (.string vl)) (((W.setCell ⟨w.heap.size, 0, none⟩ (.string nm)).setCell ⟨w.heap.size, 1, none⟩ (.slice L n c)).setCell ⟨w.heap.size, 2, none⟩ (.string vl)).heap.size 2 L n (encP l) ∧
    (∀ r ∈ l, POk (((W.setCell ⟨w.heap.size, 0, none⟩ (.string nm)).setCell ⟨w.heap.size, 1, none⟩ (.slice L n c)).setCell ⟨w.heap.size, 2, none⟩ (.string vl)) (((W.setCell ⟨w.heap.size, 0, none⟩ (.string nm)).setCell ⟨w.heap.size, 1, none⟩ (.slice L n c)).setCell ⟨w.heap.size, 2, none⟩ (.string vl)).heap.size r) ∧ n ≤ c ∧ c ≤ maxLen ∧
    Below w.heap.size w (((W.setCell ⟨w.heap.size, 0, none⟩ (.string nm)).setCell ⟨w.heap.size, 1, none⟩ (.slice L n c)).setCell ⟨w.heap.size, 2, none⟩ (.string vl)) := by
  have res := h.res
  have hwH := h.hwH
  unfold P3 at res
  have hO := set_lo (set_lo (set_lo h.own (show w.heap.size < H + 2 by omega) 0 (.string nm)) (show w.heap.size < H + 2 by omega) 1 (.slice L n c)) (show w.heap.size < H + 2 by omega) 2 (.string vl)
  have hlc : n ≤ c ∧ c ≤ maxLen := by
    obtain ⟨A', c', e, h1, h2⟩ := own_slice h.own
    injection e with _ _ e3
    subst e3
    exact ⟨h1, h2⟩
  refine ⟨?_, Reads.of_own hO, fun r hr => ?_, hlc.1, hlc.2, ((h.bel.setCell (p := ⟨w.heap.size, 0, none⟩) (Nat.le_refl _) _).setCell (p := ⟨w.heap.size, 1, none⟩) (Nat.le_refl _) _).setCell (p := ⟨w.heap.size, 2, none⟩) (Nat.le_refl _) _⟩
  · unfold P3
    simp [World.setCell, Array.getElem?_modify, res]
  · have hr2 := set_lo (set_lo (set_lo (h.par r hr) (show w.heap.size < H + 2 by omega) 0 (.string nm)) (show w.heap.size < H + 2 by omega) 1 (.slice L n c)) (show w.heap.size < H + 2 by omega) 2 (.string vl)
    obtain ⟨A', c', e, h1, h2⟩ := own_slice (h.par r hr)
    injection e with _ _ e3
    subst e3
    exact ⟨Reads.of_own hr2, h1, h2⟩
/-- What holds at the loop's head: so many bytes have come. -/
def InvR (w : World) (H : Nat) (F : Pro × Int) (s : List UInt8) (i : Nat) (W : World) : Prop :=
  ∃ (m : Mac) (nm vl : ByteArray) (L : Option Addr) (n c : Nat) (l : List PR) (G : Option Addr) (k kc B : Nat), RP w H W m nm vl L n c l G k kc B ∧ RM m ∧ k ≤ i ∧ n ≤ i ∧ (∀ r ∈ l, r.k ≤ i) ∧ FM (s.drop i) m = F
theorem parL_FM {s : ByteArray} (hs : s.size ≤ 1024) (hv : vld s.data.toList = true) : parL s.data.toList = FM s.data.toList ⟨0, [], [], [], []⟩ := by
  unfold parL
  rw [if_neg (by rw [← bsize]; omega), if_pos hv, FM_all]
  cases rdRest s.data.toList <;> rfl
theorem invR_first {w W : World} {H : Nat} {s : ByteArray} (hs : s.size ≤ 1024) (hv : vld s.data.toList = true) (hr : RL W (H + 1) ⟨#[]⟩ ⟨#[]⟩ none 0 0 0 none 0 0) (hp : P3 W w.heap.size ⟨#[]⟩ ⟨#[]⟩ none 0 0) (hsz : H + 2 ≤ W.heap.size) (hb : Below w.heap.size w W) (hwH : w.heap.size ≤ H) : InvR w H (parL s.data.toList) s.data.toList 0 W :=
  ⟨⟨0, [], [], [], []⟩, ⟨#[]⟩, ⟨#[]⟩, none, 0, 0, [], none, 0, 0, W.heap.size, ⟨hr, hp, own_nil, own_nil, (fun r hr => by cases hr), (fun r hr => by cases hr), (fun r hr => by cases hr), rfl, rfl, rfl, hsz, Nat.le_refl _, hb, hwH⟩, RM.first, Nat.le_refl _, Nat.le_refl _, (fun r hr => by cases hr), by rw [List.drop_zero, parL_FM hs hv]⟩
end Go.Proofs.YtipmeooldopkmaaDoor

/-
  The program's functions of layer 11: Parse.
-/
namespace Go.Proofs.YtipmeooldopkmaaDoor
open Go.RowKit

set_option maxRecDepth 100000 in
set_option maxHeartbeats 2000000 in
/-- The document's Parse at any text, however long. -/
theorem refParse_free (s : ByteArray) (w : World) : Calls Tryd.prog 7 #[.string s] w (ParAns s w) := by
  by_cases hs : s.size ≤ 16777216
  · exact refParse_all s hs w
  · have hsz := bsize s
    have E := Lib.hid (show parL s.data.toList = (noPro, 12) by unfold parL; rw [if_pos (by omega)])
    have h1i : (1024 : Int) < (s.size : Int) := by omega
    have Q0 := P3.new w ⟨#[]⟩ ⟨#[]⟩ none 0 0
    have r := Q0
    unfold P3 at r
    have e0 := set_same (i := 0) (v := .string ⟨#[]⟩) r rfl
    have e1 := set_same (i := 1) (v := .slice none 0 0) r rfl
    have e2 := set_same (i := 2) (v := .string ⟨#[]⟩) r rfl
    have LP := Lib.hid (load_prop Q0)
    clear hsz r Q0 hs
    go_enter Tryd.func7, Tryd.ntmps7
    go_wp2
    refine bodyPost_ret (results_two rfl _ rfl rfl LP.out) rfl ?_
    exact parAns_none E.out ((Below.refl _ w).alloc (Nat.le_refl _) _)
/-- ends, with the parameters' cell kept. -/
theorem ends_cells {w W : World} {H : Nat} {m : Mac} {nm vl : ByteArray} {L G : Option Addr} {n c k kc B : Nat} {l : List PR} {f : FuncId} {xs : Array Value} {v : Value} (h : Calls Tryd.prog f xs W fun e w' => e = .returned v ∧ ∃ q, w' = W.drewN q) (hR : RP w H W m nm vl L n c l G k kc B) :
    Calls Tryd.prog f xs W fun e w' => e = .returned v ∧ ∃ q, w' = W.drewN q ∧ (W.drewN q).cell? ⟨H + 1, 1, none⟩ = some (.slice L n c) :=
  h.mono (by rintro e w' ⟨rfl, q, rfl⟩; exact ⟨rfl, q, rfl, (hR.below (below_drewNL (Below.refl _ W) q)).rd.cells.2.1⟩)
set_option maxRecDepth 100000 in
set_option maxHeartbeats 8000000 in
theorem pParse_any0 (s : ByteArray) (w : World) (hf : Forms w) : Calls Tryd.prog 6 #[.string s] w (ParAns s w) := by
  have hsz := bsize s
  by_cases h1 : 1024 < s.size
  · have E := Lib.hid (show parL s.data.toList = (noPro, 12) by unfold parL; rw [if_pos (by omega)])
    have h1i : (1024 : Int) < (s.size : Int) := by omega
    have Q0 := P3.new w ⟨#[]⟩ ⟨#[]⟩ none 0 0
    have r := Q0
    unfold P3 at r
    have e0 := set_same (i := 0) (v := .string ⟨#[]⟩) r rfl
    have e1 := set_same (i := 1) (v := .slice none 0 0) r rfl
    have e2 := set_same (i := 2) (v := .string ⟨#[]⟩) r rfl
    have LP := Lib.hid (load_prop Q0)
    clear hsz r Q0 hf
    go_enter Tryd.func6, Tryd.ntmps6
    go_wp2
    go_step3
    go_wp2
    rw [Exit.noGoto_ret]
    refine bodyPost_ret (results_two rfl _ rfl rfl LP.out) rfl ?_
    exact parAns_none E.out ((Below.refl _ w).alloc (Nat.le_refl _) _)
  · cases hv : vld s.data.toList
    · have E := Lib.hid (show parL s.data.toList = (noPro, 10) by unfold parL; rw [if_neg (by omega), hv]; rfl)
      have h1i : ¬ (1024 : Int) < (s.size : Int) := by omega
      have Q0 := P3.new w ⟨#[]⟩ ⟨#[]⟩ none 0 0
      have ca := (Below.refl w.heap.size w).alloc (Nat.le_refl _) (.cells #[.string ⟨#[]⟩, .slice none 0 0, .string ⟨#[]⟩] 24)
      have cv := valid_any s (by omega) _ (hf.step ca)
      rw [hv] at cv
      have HQ := Lib.hid Q0
      have HA := Lib.hid ca
      clear hsz Q0 hf hv ca
      go_enter Tryd.func6, Tryd.ntmps6
      go_wp2
      go_step3
      go_upto_region 4 with (go_at_call 21; ((with_reducible refine cv.mono ?_); rintro e w1 ⟨rfl, hb1⟩))
      have Q1 := HQ.out.step hb1
      have r := Q1
      unfold P3 at r
      have e0 := set_same (i := 0) (v := .string ⟨#[]⟩) r rfl
      have e1 := set_same (i := 1) (v := .slice none 0 0) r rfl
      have e2 := set_same (i := 2) (v := .string ⟨#[]⟩) r rfl
      obtain ⟨r0, r1, r2⟩ := Q1.cells
      have rf := fun o => Q1.frozen o
      have LP := Lib.hid (load_prop Q1)
      have HB := Lib.hid (HA.out.trans (hb1.mono (by simp)))
      clear r Q1 hb1
      go_wp2
      rw [Exit.noGoto_ret]
      refine bodyPost_ret (results_two rfl _ rfl rfl LP.out) rfl ?_
      exact parAns_none E.out HB.out
    · have h1i : ¬ (1024 : Int) < (s.size : Int) := by omega
      have hs1 : s.size ≤ 1024 := by omega
      obtain ⟨u0, hu0, uz0, uz1, uz2⟩ := info_parts infoU8
      have Q0 := P3.new w ⟨#[]⟩ ⟨#[]⟩ none 0 0
      have ca := (Below.refl w.heap.size w).alloc (Nat.le_refl _) (.cells #[.string ⟨#[]⟩, .slice none 0 0, .string ⟨#[]⟩] 24)
      have cv := valid_any s (by omega) _ (hf.step ca)
      rw [hv] at cv
      have HQ := Lib.hid Q0
      have HA := Lib.hid ca
      have HV := Lib.hid hv
      have hsz2 : s.data.toList.length = s.size := hsz.symm
      clear hsz Q0 hf hv ca h1
      go_enter Tryd.func6, Tryd.ntmps6
      go_wp2
      go_step3
      go_upto_region 5 with (go_at_call 21; ((with_reducible refine cv.mono ?_); rintro e w1 ⟨rfl, hb1⟩))
      clear cv
      go_upto_region 6 with fail
      have hw1 : w.heap.size + 1 ≤ w1.heap.size := by have := hb1.size; simpa using this
      have hB1 := HA.out.trans (hb1.mono (by simp))
      have hq1 := HQ.out.step hb1
      obtain ⟨H, hH⟩ : ∃ H, w1.heap.size = H + 1 := ⟨w1.heap.size - 1, by omega⟩
      have ha1 := (Below.refl w1.heap.size w1).alloc (Nat.le_refl _) (.cells #[.string ⟨#[]⟩, .slice none 0 0, .string ⟨#[]⟩, .int .i64 ((0 : Nat) : Int), .slice none 0 0] 48)
      have hrl : RL (w1.alloc (.cells #[.string ⟨#[]⟩, .slice none 0 0, .string ⟨#[]⟩, .int .i64 ((0 : Nat) : Int), .slice none 0 0] 48)) (H + 1) ⟨#[]⟩ ⟨#[]⟩ none 0 0 0 none 0 0 := by
        rw [← hH]; exact heap_alloc_new w1 _
      have J0 := Lib.hid (invR_first (H := H) hs1 HV.out hrl (hq1.step ha1) (by rw [World.size_alloc, hH]; exact Nat.le_refl _) (hB1.trans (ha1.mono (by omega))) (by omega))
      rw [hH]
      clear hrl ha1 hq1 hB1 hb1 HQ HA hw1 hH
      rw [show Value.int .i64 ((0 : Nat) : Int) = Value.int .i64 0 from rfl] at J0
      generalize w1.alloc (.cells #[.string ⟨#[]⟩, .slice none 0 0, .string ⟨#[]⟩, .int .i64 0, .slice none 0 0] 48) = w2 at J0 ⊢
      clear w1
      go_step3
      go_wp2
      go_loopg [22, 5] s.size (fun gg q e5 wr => ∃ i : Nat, q = .int .i64 i ∧ e5 = .int .i64 0 ∧ i ≤ s.size ∧ s.size - i ≤ gg ∧ Hid (InvR w H (parL s.data.toList) s.data.toList i wr))
      case atStart => exact ⟨0, rfl, rfl, Nat.zero_le _, by omega, J0⟩
      case round =>
        clear J0
        obtain ⟨i, rfl, rfl, hi, hg, J⟩ := hrel
        obtain ⟨m, nm, vl, L, n, c, l, G, k, kc, B, R, M, hki, hni, hvi, hF⟩ := J.out
        have hst := M.st
        clear J
        by_cases hlt : i < s.size
        · have hcb := s[i].toNat_lt
          have hdr : s.data.toList.drop i = s[i] :: s.data.toList.drop (i + 1) := List.drop_eq_getElem_cons (by rw [hsz2]; exact hlt)
          rw [hdr] at hF
          have cg := goesOn_any (H + 1) n c m.st k kc nm vl L G s[i].toNat hcb wr R.rd hst
          have cf := isFull_any (H + 1) n c m.st k kc nm vl L G wr R.rd hst
          have ce := ends_any (H + 1) n c m.st k kc nm vl L G s[i].toNat hcb wr R.rd hst
          rw [goS_go] at cg
          rw [show ((decide (m.st = 0) || decide (m.st = 1)) && decide (k = 64)) = fullM m from by unfold fullM; rw [R.gotlen]] at cf
          rw [show endS m.st (decide (0 < k)) s[i].toNat = endsM m s[i] from by rw [← endS_ends, R.gotlen]] at ce
          have HR := Lib.hid R
          have HM := Lib.hid M
          have HVI := Lib.hid hvi
          have HF := Lib.hid hF
          clear R M hvi hF hdr hcb
          cases hgo : goM m.st s[i]
          · rw [hgo] at cg
            have HGO := Lib.hid hgo
            clear hgo cf
            cases hen : endsM m s[i]
            · rw [hen] at ce
              have HE := Lib.hid ((HF.out.symm).trans (FM_bad _ HGO.out hen))
              clear hen
              go_upto_region 16 with (first
                | (go_at_call 22; ((with_reducible refine cg.mono ?_); rintro e w' ⟨rfl, hw⟩; subst w'))
                | (go_at_call 24; ((with_reducible refine ce.mono ?_); rintro e w' ⟨rfl, q, rfl⟩)))
              have R2 := Lib.hid (HR.out.below (below_drewNL (Below.refl _ wr) q))
              have r := R2.out.res
              unfold P3 at r
              have e0 := set_same (i := 0) (v := .string ⟨#[]⟩) r rfl
              have e1 := set_same (i := 1) (v := .slice none 0 0) r rfl
              have e2 := set_same (i := 2) (v := .string ⟨#[]⟩) r rfl
              obtain ⟨r0, r1, r2⟩ := R2.out.res.cells
              have rf := fun o => R2.out.res.frozen o
              have LP := Lib.hid (load_prop R2.out.res)
              clear r
              go_wp2_with fail
              rw [Exit.noGoto_ret]
              refine bodyPost_ret (results_two rfl _ rfl rfl LP.out) rfl ?_
              exact parAns_none HE.out R2.out.bel
            · rw [hen] at ce
              have HEN := Lib.hid hen
              clear hen
              have hln := HR.out.len
              have hpl : m.pars.length = n := by rw [← HR.out.prs, List.length_map, hln]
              clear hln
              by_cases h59 : s[i].toNat = 59
              · have k59 : ((s[i].toNat : Int) == 59) = true := by rw [beq_iff_eq]; omega
                by_cases h16 : n = 16
                · have k16 : ((n : Int) == 16) = true := by rw [beq_iff_eq]; omega
                  have HE := Lib.hid ((HF.out.symm).trans (FM_many _ HGO.out HEN.out ⟨h59, by omega⟩))
                  have ce2 := Lib.hid (ends_cells ce HR.out)
                  clear h59 h16 ce
                  go_upto_region 18 with (first
                    | (go_at_call 22; ((with_reducible refine cg.mono ?_); rintro e w' ⟨rfl, hw⟩; subst w'))
                    | (go_at_call 24; ((with_reducible refine ce2.out.mono ?_); rintro e w' ⟨rfl, q, rfl, x1⟩)))
                  have R2 := Lib.hid (HR.out.below (below_drewNL (Below.refl _ wr) q))
                  have r := R2.out.res
                  unfold P3 at r
                  have e0 := set_same (i := 0) (v := .string ⟨#[]⟩) r rfl
                  have e1 := set_same (i := 1) (v := .slice none 0 0) r rfl
                  have e2 := set_same (i := 2) (v := .string ⟨#[]⟩) r rfl
                  obtain ⟨r0, r1, r2⟩ := R2.out.res.cells
                  have rf := fun o => R2.out.res.frozen o
                  have LP := Lib.hid (load_prop R2.out.res)
                  clear r
                  go_wp2_with fail
                  rw [Exit.noGoto_ret]
                  refine bodyPost_ret (results_two rfl _ rfl rfl LP.out) rfl ?_
                  exact parAns_none HE.out R2.out.bel
                · have k16 : ((n : Int) == 16) = false := by rw [beq_eq_false_iff_ne]; omega
                  have HE := Lib.hid ((FM_end _ HGO.out HEN.out (fun h => h16 (by omega))).symm.trans HF.out)
                  have ce2 := Lib.hid (ends_cells ce HR.out)
                  clear h59 h16 ce
                  go_upto_region 10 with (first
                    | (go_at_call 22; ((with_reducible refine cg.mono ?_); rintro e w' ⟨rfl, hw⟩; subst w'))
                    | (go_at_call 24; ((with_reducible refine ce2.out.mono ?_); rintro e w' ⟨rfl, q, rfl, x1⟩)))
                  have R2 := Lib.hid (HR.out.below (below_drewNL (Below.refl _ wr) q))
                  have cd := end_any R2.out HM.out (by omega) (by omega) HVI.out (by omega) s[i] (s[i].toNat : Int) rfl
                  clear x1
                  go_wp2_with (go_at_call 25; ((with_reducible refine cd.mono ?_); rintro e w3 ⟨rfl, nm3, vl3, L3, n3, c3, l3, G3, k3, kc3, B3, R3x, hn3, hk3, hv3⟩))
                  have J1 := Lib.hid (show InvR w H (parL s.data.toList) s.data.toList (i + 1) w3 from ⟨_, nm3, vl3, L3, n3, c3, l3, G3, k3, kc3, B3, R3x, HM.out.done HEN.out, by omega, by omega, hv3, HE.out⟩)
                  clear R3x hv3
                  go_roundg (s.size - (i + 1))
                  case measure => omega
                  case rel => exact ⟨i + 1, by go_num, rfl, by omega, by omega, J1⟩
              · have k59 : ((s[i].toNat : Int) == 59) = false := by rw [beq_eq_false_iff_ne]; omega
                have HE := Lib.hid ((FM_end _ HGO.out HEN.out (fun h => h59 h.1)).symm.trans HF.out)
                clear h59
                go_upto_region 10 with (first
                  | (go_at_call 22; ((with_reducible refine cg.mono ?_); rintro e w' ⟨rfl, hw⟩; subst w'))
                  | (go_at_call 24; ((with_reducible refine ce.mono ?_); rintro e w' ⟨rfl, q, rfl⟩)))
                have R2 := Lib.hid (HR.out.below (below_drewNL (Below.refl _ wr) q))
                have cd := end_any R2.out HM.out (by omega) (by omega) HVI.out (by omega) s[i] (s[i].toNat : Int) rfl
                go_wp2_with (go_at_call 25; ((with_reducible refine cd.mono ?_); rintro e w3 ⟨rfl, nm3, vl3, L3, n3, c3, l3, G3, k3, kc3, B3, R3x, hn3, hk3, hv3⟩))
                have J1 := Lib.hid (show InvR w H (parL s.data.toList) s.data.toList (i + 1) w3 from ⟨_, nm3, vl3, L3, n3, c3, l3, G3, k3, kc3, B3, R3x, HM.out.done HEN.out, by omega, by omega, hv3, HE.out⟩)
                clear R3x hv3
                go_roundg (s.size - (i + 1))
                case measure => omega
                case rel => exact ⟨i + 1, by go_num, rfl, by omega, by omega, J1⟩
          · rw [hgo] at cg
            have HGO := Lib.hid hgo
            clear hgo ce
            cases hfu : fullM m
            · rw [hfu] at cf
              have HE := Lib.hid ((FM_go _ HGO.out hfu).symm.trans HF.out)
              clear hfu
              obtain ⟨x0, x1, x2, x3, x4, xf⟩ := HR.out.rd.cells
              have X6 := Lib.hid (HR.out.below ((Below.refl _ _).alloc (Nat.le_refl _) (.cells #[.int .u8 (s[i].toNat : Int)] 5)))
              go_wp2_with (first
                | (go_at_call 22; ((with_reducible refine cg.mono ?_); rintro e w' ⟨rfl, hw⟩; subst w'))
                | (go_at_call 23; ((with_reducible refine cf.mono ?_); rintro e w' ⟨rfl, hw⟩; subst w'))
                | (at_builtin; refine wpList_append_own _ rfl _ _ 46 rfl (H + 2) 5 u0 (.int .u8 0) 1 1 Tryd.underlying46 hu0 uz0 uz1 uz2 rfl (by decide) _ _ _ rfl X6.out.got ⟨wr.heap.size, 0, none⟩ 1 1 [.int .u8 (s[i].toNat : Int)] rfl rfl (cell_one_new _ _ _) (by simp [Value.oneCell']) (by unfold maxLen; omega) (by omega) (by have := X6.out.hB; have := X6.out.hBW; omega) ?_; intro v' w7 hown7 hgrow7 _; obtain ⟨g7, c7, rfl⟩ := ownsRow_succ hown7; obtain ⟨y0, y1, y2, y3, y4, yf⟩ := (X6.out.after hgrow7 (fun g e => own_row_ge X6.out.got g e)).1.cells))
              have J1 := Lib.hid (show InvR w H (parL s.data.toList) s.data.toList (i + 1) _ from ⟨_, nm, vl, L, n, c, l, _, k + 1, c7, B, HR.out.push ((Below.refl _ _).alloc (Nat.le_refl _) (.cells #[.int .u8 (s[i].toNat : Int)] 5)) (G' := some ⟨g7, 0, none⟩) (kc' := c7) hgrow7 s[i] hown7, HM.out.push HGO.out, by omega, by omega, fun r hr => Nat.le_succ_of_le (HVI.out r hr), HE.out⟩)
              clear hown7 hgrow7
              go_roundg (s.size - (i + 1))
              case measure => omega
              case rel => exact ⟨i + 1, by go_num, rfl, by omega, by omega, J1⟩
            · rw [hfu] at cf
              have HE := Lib.hid ((HF.out.symm).trans (FM_full _ HGO.out hfu))
              clear hfu
              have r := HR.out.res
              unfold P3 at r
              have e0 := set_same (i := 0) (v := .string ⟨#[]⟩) r rfl
              have e1 := set_same (i := 1) (v := .slice none 0 0) r rfl
              have e2 := set_same (i := 2) (v := .string ⟨#[]⟩) r rfl
              obtain ⟨r0, r1, r2⟩ := HR.out.res.cells
              have rf := fun o => HR.out.res.frozen o
              have LP := Lib.hid (load_prop HR.out.res)
              clear r
              go_wp2_with (first
                | (go_at_call 22; ((with_reducible refine cg.mono ?_); rintro e w' ⟨rfl, hw⟩; subst w'))
                | (go_at_call 23; ((with_reducible refine cf.mono ?_); rintro e w' ⟨rfl, hw⟩; subst w')))
              rw [Exit.noGoto_ret]
              refine bodyPost_ret (results_two rfl _ rfl rfl LP.out) rfl ?_
              exact parAns_none HE.out HR.out.bel
        · obtain rfl : i = s.size := by omega
          rw [List.drop_eq_nil_of_le (by rw [hsz2]; exact Nat.le_refl _)] at hF
          obtain ⟨x0, x1, x2, x3, x4, xf⟩ := R.rd.cells
          have HR := Lib.hid R
          by_cases h5 : m.st = 5
          · have HE := Lib.hid (show parL s.data.toList = (⟨(keepM m).name, (keepM m).pars, (keepM m).value⟩, 0) from hF.symm.trans (by
              show (if m.st = 5 then _ else _) = _
              rw [if_pos h5]))
            have cd := keep_any R M (by omega) (by omega) hvi (by omega)
            rw [h5] at x3
            clear R M hvi hF h5 hst
            go_upto_region 25 with (go_at_call 26; ((with_reducible refine cd.mono ?_); rintro e w3 ⟨rfl, nm3, vl3, L3, n3, c3, l3, B3, R3x, hn3, hv3⟩))
            obtain ⟨y0, y1, y2, y3, y4, yf⟩ := R3x.rd.cells
            obtain ⟨r0, r1, r2⟩ := R3x.res.cells
            have rf := fun o => R3x.res.frozen o
            have HX := Lib.hid R3x
            have LP := Lib.hid R3x.fin
            clear R3x hv3
            go_wp2_with fail
            rw [Exit.noGoto_ret]
            refine bodyPost_ret (results_two rfl _ rfl rfl (load_prop LP.out.1)) rfl ?_
            exact ⟨nm3, vl3, L3, n3, c3, l3, by rw [HE.out]; rfl, by rw [HE.out, HX.out.nmE, HX.out.vlE, HX.out.prs], LP.out.2⟩
          · have k5 : ((m.st : Int) != 5) = true := by rw [bne_iff_ne]; omega
            have HE := Lib.hid (hF.symm.trans (FM_nil h5))
            clear R M hvi hF h5
            have r := HR.out.res
            unfold P3 at r
            have e0 := set_same (i := 0) (v := .string ⟨#[]⟩) r rfl
            have e1 := set_same (i := 1) (v := .slice none 0 0) r rfl
            have e2 := set_same (i := 2) (v := .string ⟨#[]⟩) r rfl
            obtain ⟨r0, r1, r2⟩ := HR.out.res.cells
            have rf := fun o => HR.out.res.frozen o
            have LP := Lib.hid (load_prop HR.out.res)
            clear r
            go_wp2_with fail
            rw [Exit.noGoto_ret]
            refine bodyPost_ret (results_two rfl _ rfl rfl LP.out) rfl ?_
            exact parAns_none HE.out HR.out.bel
end Go.Proofs.YtipmeooldopkmaaDoor

/-
  The program's functions of layer 11 under one shape: what each answers, and that it leaves what lay before. LV: what the listed variables hold.
-/
namespace Go.Proofs.YtipmeooldopkmaaDoor
open Go.RowKit

structure LV (w : World) : Prop where
  forms : Forms w
  max : MaxLn w
theorem LV.step {w w' : World} (h : LV w) (hb : Below w.heap.size w w') : LV w' := ⟨h.forms.step hb, h.max.step hb⟩
/-- What a call of Unfold answers. -/
def UnfAns (s : ByteArray) (w : World) (e : Ending) (w' : World) : Prop :=
  ∃ (A : Option Addr) (n c : Nat) (bs : List ByteArray), e = .returned (.tuple #[.slice A n c, .int .i64 (unfQ s.data.toList).2]) ∧ (bs.map fun b => b.data.toList) = (unfQ s.data.toList).1 ∧ Reads w' w'.heap.size 1 A n (encS bs) ∧ n ≤ c ∧ c ≤ maxLen ∧ Below w.heap.size w w'
theorem mem_vsize : ∀ {l : List ByteArray} {v : ByteArray}, v ∈ l → v.size ≤ vsize l
  | x :: l, v, h => by
    unfold vsize
    rcases List.mem_cons.1 h with rfl | h
    · simp; omega
    · have := mem_vsize h
      unfold vsize at this
      simp; omega
theorem mem_psizes : ∀ {l : List PR} {r : PR}, r ∈ l → psize r ≤ psizes l
  | x :: l, r, h => by
    unfold psizes
    rcases List.mem_cons.1 h with rfl | h
    · simp
    · have := mem_psizes h
      unfold psizes at this
      simp; omega
theorem pParse_free (s : ByteArray) (w : World) (hv : LV w) : Calls Tryd.prog 6 #[.string s] w (ParAns s w) := pParse_any0 s w hv.forms
theorem pParse_any (s : ByteArray) (_hs : s.size ≤ 16777216) (w : World) (hv : LV w) : Calls Tryd.prog 6 #[.string s] w (ParAns s w) := pParse_free s w hv
theorem pParam_any (nm vl name : ByteArray) (L : Option Addr) (n c : Nat) (l : List PR) (w : World) (hR : Reads w w.heap.size 2 L n (encP l)) (hP : ∀ r ∈ l, POk w w.heap.size r) (hn : n ≤ c) (hc : c ≤ maxLen) (hsz : nm.size + psizes l + vl.size ≤ 1048576) (_hv : LV w) :
    Calls Tryd.prog 10 #[.agg #[.string nm, .slice L n c, .string vl], .string name] w fun e w' => e = .returned (.tuple #[.string (prmV l name).1, .bool (prmV l name).2]) ∧ Below w.heap.size w w' := pParam_x nm vl name L n c l w hR hP hn hc (fun r hr v hv => by
    have h1 := mem_psizes hr
    have h2 := mem_vsize hv
    unfold psize at h1
    omega)
theorem pFit_any (nm vl : ByteArray) (L : Option Addr) (n c : Nat) (l : List PR) (w : World) (hR : Reads w w.heap.size 2 L n (encP l)) (hP : ∀ r ∈ l, POk w w.heap.size r) (hn : n ≤ c) (hc : c ≤ maxLen) (hsz : nm.size + psizes l + vl.size ≤ 1048576) (hv : LV w) :
    Calls Tryd.prog 12 #[.agg #[.string nm, .slice L n c, .string vl]] w fun e w' => e = .returned (.bool (fitB (proOf nm l vl))) ∧ Below w.heap.size w w' := pFit_x nm vl L n c l w hR hP hn hc hsz hv.forms
theorem pPrint_any (nm vl : ByteArray) (L : Option Addr) (n c : Nat) (l : List PR) (w : World) (hR : Reads w w.heap.size 2 L n (encP l)) (hP : ∀ r ∈ l, POk w w.heap.size r) (hn : n ≤ c) (hc : c ≤ maxLen) (hsz : nm.size + psizes l + vl.size ≤ 1048576) (hv : LV w) :
    Calls Tryd.prog 14 #[.agg #[.string nm, .slice L n c, .string vl]] w fun e w' => e = .returned (.string ⟨(prnL (proOf nm l vl)).toArray⟩) ∧ Below w.heap.size w w' := pPrint_x nm vl L n c l w hR hP hn hc hsz hv.forms
theorem pSame_any (nm vl nm2 vl2 : ByteArray) (L L2 : Option Addr) (n c n2 c2 : Nat) (l l2 : List PR) (w : World) (hR : Reads w w.heap.size 2 L n (encP l)) (hP : ∀ r ∈ l, POk w w.heap.size r) (hn : n ≤ c) (hc : c ≤ maxLen)
    (hR2 : Reads w w.heap.size 2 L2 n2 (encP l2)) (hP2 : ∀ r ∈ l2, POk w w.heap.size r) (hn2 : n2 ≤ c2) (hc2 : c2 ≤ maxLen) (_hsz : nm.size + psizes l + vl.size ≤ 1048576) (_hsz2 : nm2.size + psizes l2 + vl2.size ≤ 1048576) (_hv : LV w) :
    Calls Tryd.prog 16 #[.agg #[.string nm, .slice L n c, .string vl], .agg #[.string nm2, .slice L2 n2 c2, .string vl2]] w fun e w' => e = .returned (.bool (decide (proOf nm l vl = proOf nm2 l2 vl2))) ∧ Below w.heap.size w w' := pSame_x nm vl nm2 vl2 L L2 n c n2 c2 l l2 w hR hP hn hc hR2 hP2 hn2 hc2
theorem pFold_any (A : Option Addr) (n c : Nat) (bs : List ByteArray) (w : World) (hR : Reads w w.heap.size 1 A n (encS bs)) (hn : n ≤ c) (hc : c ≤ maxLen) (hsz : vsize bs ≤ 1048576) (_hv : LV w) :
    Calls Tryd.prog 17 #[.slice A n c] w fun e w' => e = .returned (.string ⟨(foldL (bs.map fun b => b.data.toList)).toArray⟩) ∧ Below w.heap.size w w' := pFold_x A n c bs w hR hn hc hsz
theorem pUnfold_any (s : ByteArray) (hs : s.size ≤ 16777216) (w : World) (hv : LV w) : Calls Tryd.prog 19 #[.string s] w (UnfAns s w) := pUnfold_x s hs w hv.max

end Go.Proofs.YtipmeooldopkmaaDoor
