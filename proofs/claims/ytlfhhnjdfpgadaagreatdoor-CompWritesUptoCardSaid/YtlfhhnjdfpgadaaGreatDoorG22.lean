/-
  The program's reader of a property: what stays true of the machine; the property whole.
-/
import Derived.Test.YtlfhhnjdfpgadaaGreatDoorG21
import Derived.Test.YtlfhhnjdfpgadaaGreatDoorG18
import Derived.Test.YtlfhhnjdfpgadaaGreatDoorG15
namespace Go.Proofs.YtlfhhnjdfpgadaaGreatDoor
open Go.RowKit

theorem RM.first : RM ⟨0, [], [], [], []⟩ := ⟨by decide, fun h => by simp at h, fun _ b hb => by simp at hb⟩
theorem RM.push {m : Mac} {x : UInt8} (h : RM m) (hg : goM m.st x = true) : RM (pushM m x) := by
  refine ⟨h.st, h.ps, fun hs b hb => ?_⟩
  have hs : m.st ≤ 1 := hs
  rcases List.mem_append.1 hb with hb | hb
  · exact h.nb hs b hb
  · obtain rfl : b = x := by simpa using hb
    rcases (show m.st = 0 ∨ m.st = 1 by omega) with e | e <;> rw [e] at hg <;> exact hg
theorem addV_ne {ps : List Par} {v : List UInt8} (h : ps ≠ []) : addV ps v ≠ [] := by
  unfold addV
  cases hl : ps.getLast? with
  | none => simp [List.getLast?_eq_none_iff] at hl; exact absurd hl h
  | some p => simp
theorem RM.done {m : Mac} {x : UInt8} (h : RM m) (he : endsM m x = true) : RM (endM m x) := by
  have hst := h.st
  have e1 : (endM m x).st = nextM m.st x := rfl
  have hn : nextM m.st x ≤ 5 ∧ 1 ≤ nextM m.st x := by unfold nextM; split <;> (try split) <;> (try split) <;> (try split) <;> omega
  refine ⟨by rw [e1]; exact hn.1, fun h2 h4 => ?_, fun h1 b hb => ?_⟩
  · rw [e1] at h2 h4
    show (if x.toNat = 34 then m else keepM m).pars ≠ []
    by_cases h34 : x.toNat = 34
    · rw [if_pos h34]
      refine h.ps ?_ ?_
      · rcases (show m.st = 0 ∨ m.st = 1 ∨ 2 ≤ m.st by omega) with e | e | e
        · unfold endsM at he; rw [e] at he; simp [h34] at he
        · unfold endsM at he; rw [e] at he; simp [h34] at he
        · exact e
      · rcases (show m.st = 5 ∨ m.st ≤ 4 by omega) with e | e
        · unfold endsM at he; rw [e] at he; simp at he
        · exact e
    · rw [if_neg h34]
      have h59 : x.toNat ≠ 59 := fun e => by unfold nextM at h2; rw [if_pos e] at h2; omega
      have h58 : x.toNat ≠ 58 := fun e => by unfold nextM at h4; rw [if_neg h59, if_pos e] at h4; omega
      rcases (show m.st = 0 ∨ m.st = 1 ∨ m.st = 5 ∨ (2 ≤ m.st ∧ m.st ≤ 4) by omega) with e | e | e | ⟨e2, e4⟩
      · unfold endsM at he; rw [e] at he; simp [h59, h58] at he
      · unfold keepM; rw [e]; simp
      · unfold endsM at he; rw [e] at he; simp at he
      · have hp := h.ps e2 e4
        rcases (show m.st = 2 ∨ m.st = 3 ∨ m.st = 4 by omega) with e | e | e <;> (unfold keepM; rw [e]; exact addV_ne hp)
  · exfalso
    revert hb
    rw [e1] at h1
    have h59 : x.toNat = 59 := by
      unfold nextM at h1
      by_cases h : x.toNat = 59
      · exact h
      · rw [if_neg h] at h1
        split at h1 <;> (try split at h1) <;> (try split at h1) <;> omega
    show b ∉ (if x.toNat = 34 then m else keepM m).got
    rw [if_neg (by omega)]
    unfold keepM
    split <;> simp
theorem RP.fin {w W : World} {H : Nat} {m : Mac} {nm vl : ByteArray} {L G : Option Addr} {n c k kc B : Nat} {l : List PR} (h : RP w H W m nm vl L n c l G k kc B) :
    P3 (((W.setCell ⟨w.heap.size, 0, none⟩ (.string nm)).setCell ⟨w.heap.size, 1, none⟩ (.slice L n c)).setCell ⟨w.heap.size, 2, none⟩ (.string vl)) w.heap.size nm vl L n c ∧
    Reads (((W.setCell ⟨w.heap.size, 0, none⟩ (.string nm)).setCell ⟨w.heap.size, 1, none⟩ (.slice L n c)).setCell ⟨w.heap.size, 2, none⟩ (.string vl)) (((W.setCell ⟨w.heap.size, 0, none⟩ (.string nm)).setCell ⟨w.heap.size, 1, none⟩ (.slice L n c)).setCell ⟨w.heap.size, 2, none⟩ (.string vl)).heap.size 2 L n (encP l) ∧
    (∀ r ∈ l, POk (((W.setCell ⟨w.heap.size, 0, none⟩ (.string nm)).setCell ⟨w.heap.size, 1, none⟩ (.slice L n c)).setCell ⟨w.heap.size, 2, none⟩ (.string vl)) (((W.setCell ⟨w.heap.size, 0, none⟩ (.string nm)).setCell ⟨w.heap.size, 1, none⟩ (.slice L n c)).setCell ⟨w.heap.size, 2, none⟩ (.string vl)).heap.size r) ∧ n ≤ c ∧ c ≤ maxLen ∧
    Below w.heap.size w (((W.setCell ⟨w.heap.size, 0, none⟩ (.string nm)).setCell ⟨w.heap.size, 1, none⟩ (.slice L n c)).setCell ⟨w.heap.size, 2, none⟩ (.string vl)) := by
  have res := h.res
  have hwH := h.hwH
  unfold P3 at res
  have hO := set_lo (set_lo (set_lo h.own (show w.heap.size < H + 2 by omega) 0 (.string nm)) (show w.heap.size < H + 2 by omega) 1 (.slice L n c)) (show w.heap.size < H + 2 by omega) 2 (.string vl)
  have hlc : n ≤ c ∧ c ≤ maxLen := by
    obtain ⟨A', c', e, h1, h2⟩ := own_slice h.own
    injection e with _ _ e3
    subst e3
    exact ⟨h1, h2⟩
  refine ⟨?_, Reads.of_own hO, fun r hr => ?_, hlc.1, hlc.2, ((h.bel.setCell (p := ⟨w.heap.size, 0, none⟩) (Nat.le_refl _) _).setCell (p := ⟨w.heap.size, 1, none⟩) (Nat.le_refl _) _).setCell (p := ⟨w.heap.size, 2, none⟩) (Nat.le_refl _) _⟩
  · unfold P3
    simp [World.setCell, Array.getElem?_modify, res]
  · have hr2 := set_lo (set_lo (set_lo (h.par r hr) (show w.heap.size < H + 2 by omega) 0 (.string nm)) (show w.heap.size < H + 2 by omega) 1 (.slice L n c)) (show w.heap.size < H + 2 by omega) 2 (.string vl)
    obtain ⟨A', c', e, h1, h2⟩ := own_slice (h.par r hr)
    injection e with _ _ e3
    subst e3
    exact ⟨Reads.of_own hr2, h1, h2⟩
theorem own_in {w W : World} {base n size lo : Nat} {e : TypeId} {v : Value} {xs : List Value} (h : w.ownsRow base e size v n xs) (hlo : lo ≤ base) (hk : ∀ b, lo ≤ b → b < w.heap.size → W.heap[b]? = w.heap[b]?) : W.ownsRow base e size v n xs := by
  refine ⟨h.1, ?_⟩
  rcases h.2 with h' | ⟨g, cap, cur, hv, hg, hh, r⟩
  · exact .inl h'
  · exact .inr ⟨g, cap, cur, hv, hg, (hk g (by omega) (Array.getElem?_eq_some_iff.1 hh).1).trans hh, r⟩
/-- The answer's variable set; the rows, in any world in which the call's own blocks are as they were. -/
theorem RP.finF {w W : World} {H : Nat} {m : Mac} {nm vl : ByteArray} {L G : Option Addr} {n c k kc B : Nat} {l : List PR} (h : RP w H W m nm vl L n c l G k kc B) :
    P3 (((W.setCell ⟨w.heap.size, 0, none⟩ (.string nm)).setCell ⟨w.heap.size, 1, none⟩ (.slice L n c)).setCell ⟨w.heap.size, 2, none⟩ (.string vl)) w.heap.size nm vl L n c ∧
    (∀ V : World, (((W.setCell ⟨w.heap.size, 0, none⟩ (.string nm)).setCell ⟨w.heap.size, 1, none⟩ (.slice L n c)).setCell ⟨w.heap.size, 2, none⟩ (.string vl)).heap.size ≤ V.heap.size → (∀ b, w.heap.size ≤ b → b < (((W.setCell ⟨w.heap.size, 0, none⟩ (.string nm)).setCell ⟨w.heap.size, 1, none⟩ (.slice L n c)).setCell ⟨w.heap.size, 2, none⟩ (.string vl)).heap.size → V.heap[b]? = (((W.setCell ⟨w.heap.size, 0, none⟩ (.string nm)).setCell ⟨w.heap.size, 1, none⟩ (.slice L n c)).setCell ⟨w.heap.size, 2, none⟩ (.string vl)).heap[b]?) → Reads V V.heap.size 2 L n (encP l) ∧ ∀ r ∈ l, POk V V.heap.size r) ∧ n ≤ c ∧ c ≤ maxLen ∧
    Below w.heap.size w (((W.setCell ⟨w.heap.size, 0, none⟩ (.string nm)).setCell ⟨w.heap.size, 1, none⟩ (.slice L n c)).setCell ⟨w.heap.size, 2, none⟩ (.string vl)) := by
  obtain ⟨f1, _, _, f4, f5, f6⟩ := h.fin
  have hwH := h.hwH
  refine ⟨f1, fun V _ hV => ⟨?_, fun r hr => ?_⟩, f4, f5, f6⟩
  · have hO := set_lo (set_lo (set_lo h.own (show w.heap.size < H + 2 by omega) 0 (.string nm)) (show w.heap.size < H + 2 by omega) 1 (.slice L n c)) (show w.heap.size < H + 2 by omega) 2 (.string vl)
    exact Reads.of_own (own_in hO (show w.heap.size ≤ H + 2 by omega) hV)
  · have hr2 := set_lo (set_lo (set_lo (h.par r hr) (show w.heap.size < H + 2 by omega) 0 (.string nm)) (show w.heap.size < H + 2 by omega) 1 (.slice L n c)) (show w.heap.size < H + 2 by omega) 2 (.string vl)
    obtain ⟨A', c', e, h1, h2⟩ := own_slice (h.par r hr)
    injection e with _ _ e3
    subst e3
    exact ⟨Reads.of_own (own_in hr2 (show w.heap.size ≤ H + 2 by omega) hV), h1, h2⟩
/-- What a call of Parse answers, its rows in blocks of its own: in any world in which these are as they were. -/
def ParAnsF (s : ByteArray) (w : World) (e : Ending) (w' : World) : Prop :=
  ∃ (nm vl : ByteArray) (L : Option Addr) (n c : Nat) (l : List PR), e = .returned (.tuple #[.agg #[.string nm, .slice L n c, .string vl], .int .i64 (parL s.data.toList).2]) ∧
    (parL s.data.toList).1 = ⟨nm.data.toList, l.map parOf, vl.data.toList⟩ ∧
    (∀ W : World, w'.heap.size ≤ W.heap.size → (∀ b, w.heap.size ≤ b → b < w'.heap.size → W.heap[b]? = w'.heap[b]?) → Reads W W.heap.size 2 L n (encP l) ∧ ∀ r ∈ l, POk W W.heap.size r) ∧ n ≤ c ∧ c ≤ maxLen ∧ Below w.heap.size w w'
theorem ParAnsF.plain {s : ByteArray} {w : World} {e : Ending} {w' : World} (h : ParAnsF s w e w') : ParAns s w e w' := by
  obtain ⟨nm, vl, L, n, c, l, h1, h2, h3, h4, h5, h6⟩ := h
  obtain ⟨a, b⟩ := h3 w' (Nat.le_refl _) (fun _ _ _ => rfl)
  exact ⟨nm, vl, L, n, c, l, h1, h2, a, b, h4, h5, h6⟩
theorem parAnsF_none {s : ByteArray} {w w' : World} {k : Int} (h : parL s.data.toList = (noPro, k)) (hb : Below w.heap.size w w') : ParAnsF s w (.returned (.tuple #[.agg #[.string ⟨#[]⟩, .slice none 0 0, .string ⟨#[]⟩], .int .i64 k])) w' :=
  ⟨⟨#[]⟩, ⟨#[]⟩, none, 0, 0, [], by rw [h], by rw [h]; rfl, fun _ _ _ => ⟨Reads.nil, fun r hr => by cases hr⟩, Nat.le_refl _, by unfold maxLen; omega, hb⟩
/-- What holds at the loop's head: so many bytes have come. -/
def InvR (w : World) (H : Nat) (F : Pro × Int) (s : List UInt8) (i : Nat) (W : World) : Prop :=
  ∃ (m : Mac) (nm vl : ByteArray) (L : Option Addr) (n c : Nat) (l : List PR) (G : Option Addr) (k kc B : Nat), RP w H W m nm vl L n c l G k kc B ∧ RM m ∧ k ≤ i ∧ n ≤ i ∧ (∀ r ∈ l, r.k ≤ i) ∧ FM (s.drop i) m = F
theorem parL_FM {s : ByteArray} (hs : s.size ≤ 1024) (hv : vld s.data.toList = true) : parL s.data.toList = FM s.data.toList ⟨0, [], [], [], []⟩ := by
  unfold parL
  rw [if_neg (by rw [← bsize]; omega), if_pos hv, FM_all]
  cases rdRest s.data.toList <;> rfl
theorem invR_first {w W : World} {H : Nat} {s : ByteArray} (hs : s.size ≤ 1024) (hv : vld s.data.toList = true) (hr : RL W (H + 1) ⟨#[]⟩ ⟨#[]⟩ none 0 0 0 none 0 0) (hp : P3 W w.heap.size ⟨#[]⟩ ⟨#[]⟩ none 0 0) (hsz : H + 2 ≤ W.heap.size) (hb : Below w.heap.size w W) (hwH : w.heap.size ≤ H) : InvR w H (parL s.data.toList) s.data.toList 0 W :=
  ⟨⟨0, [], [], [], []⟩, ⟨#[]⟩, ⟨#[]⟩, none, 0, 0, [], none, 0, 0, W.heap.size, ⟨hr, hp, own_nil, own_nil, (fun r hr => by cases hr), (fun r hr => by cases hr), (fun r hr => by cases hr), rfl, rfl, rfl, hsz, Nat.le_refl _, hb, hwH⟩, RM.first, Nat.le_refl _, Nat.le_refl _, (fun r hr => by cases hr), by rw [List.drop_zero, parL_FM hs hv]⟩
end Go.Proofs.YtlfhhnjdfpgadaaGreatDoor

/-
  The program's functions of layer 11: Parse.
-/
namespace Go.Proofs.YtlfhhnjdfpgadaaGreatDoor
open Go.RowKit

/-- ends, with the parameters' cell kept. -/
theorem ends_cells {w W : World} {H : Nat} {m : Mac} {nm vl : ByteArray} {L G : Option Addr} {n c k kc B : Nat} {l : List PR} {f : FuncId} {xs : Array Value} {v : Value} (h : Calls Tryz.prog f xs W fun e w' => e = .returned v ∧ ∃ q, w' = W.drewN q) (hR : RP w H W m nm vl L n c l G k kc B) :
    Calls Tryz.prog f xs W fun e w' => e = .returned v ∧ ∃ q, w' = W.drewN q ∧ (W.drewN q).cell? ⟨H + 1, 1, none⟩ = some (.slice L n c) :=
  h.mono (by rintro e w' ⟨rfl, q, rfl⟩; exact ⟨rfl, q, rfl, (hR.below (below_drewNL (Below.refl _ W) q)).rd.cells.2.1⟩)
set_option maxRecDepth 100000 in
set_option maxHeartbeats 8000000 in
theorem pParse_anyF (s : ByteArray) (w : World) (hf : Forms w) : Calls Tryz.prog 33 #[.string s] w (ParAnsF s w) := by
  have hsz := bsize s
  by_cases h1 : 1024 < s.size
  · have E := Lib.hid (show parL s.data.toList = (noPro, 12) by unfold parL; rw [if_pos (by omega)])
    have h1i : (1024 : Int) < (s.size : Int) := by omega
    have Q0 := P3.new w ⟨#[]⟩ ⟨#[]⟩ none 0 0
    have r := Q0
    unfold P3 at r
    have e0 := set_same (i := 0) (v := .string ⟨#[]⟩) r rfl
    have e1 := set_same (i := 1) (v := .slice none 0 0) r rfl
    have e2 := set_same (i := 2) (v := .string ⟨#[]⟩) r rfl
    have LP := Lib.hid (load_prop Q0)
    clear hsz r Q0 hf
    go_enter Tryz.func33, Tryz.ntmps33
    go_wp2
    go_step3
    go_wp2
    rw [Exit.noGoto_ret]
    refine bodyPost_ret (results_two rfl _ rfl rfl LP.out) rfl ?_
    exact parAnsF_none E.out ((Below.refl _ w).alloc (Nat.le_refl _) _)
  · cases hv : vld s.data.toList
    · have E := Lib.hid (show parL s.data.toList = (noPro, 10) by unfold parL; rw [if_neg (by omega), hv]; rfl)
      have h1i : ¬ (1024 : Int) < (s.size : Int) := by omega
      have Q0 := P3.new w ⟨#[]⟩ ⟨#[]⟩ none 0 0
      have ca := (Below.refl w.heap.size w).alloc (Nat.le_refl _) (.cells #[.string ⟨#[]⟩, .slice none 0 0, .string ⟨#[]⟩] 30)
      have cv := valid_any s (by omega) _ (hf.step ca)
      rw [hv] at cv
      have HQ := Lib.hid Q0
      have HA := Lib.hid ca
      clear hsz Q0 hf hv ca
      go_enter Tryz.func33, Tryz.ntmps33
      go_wp2
      go_step3
      go_upto_region 4 with (go_at_call 55; ((with_reducible refine cv.mono ?_); rintro e w1 ⟨rfl, hb1⟩))
      have Q1 := HQ.out.step hb1
      have r := Q1
      unfold P3 at r
      have e0 := set_same (i := 0) (v := .string ⟨#[]⟩) r rfl
      have e1 := set_same (i := 1) (v := .slice none 0 0) r rfl
      have e2 := set_same (i := 2) (v := .string ⟨#[]⟩) r rfl
      obtain ⟨r0, r1, r2⟩ := Q1.cells
      have rf := fun o => Q1.frozen o
      have LP := Lib.hid (load_prop Q1)
      have HB := Lib.hid (HA.out.trans (hb1.mono (by simp)))
      clear r Q1 hb1
      go_wp2
      rw [Exit.noGoto_ret]
      refine bodyPost_ret (results_two rfl _ rfl rfl LP.out) rfl ?_
      exact parAnsF_none E.out HB.out
    · have h1i : ¬ (1024 : Int) < (s.size : Int) := by omega
      have hs1 : s.size ≤ 1024 := by omega
      obtain ⟨u0, hu0, uz0, uz1, uz2⟩ := info_parts infoU8
      have Q0 := P3.new w ⟨#[]⟩ ⟨#[]⟩ none 0 0
      have ca := (Below.refl w.heap.size w).alloc (Nat.le_refl _) (.cells #[.string ⟨#[]⟩, .slice none 0 0, .string ⟨#[]⟩] 30)
      have cv := valid_any s (by omega) _ (hf.step ca)
      rw [hv] at cv
      have HQ := Lib.hid Q0
      have HA := Lib.hid ca
      have HV := Lib.hid hv
      have hsz2 : s.data.toList.length = s.size := hsz.symm
      clear hsz Q0 hf hv ca h1
      go_enter Tryz.func33, Tryz.ntmps33
      go_wp2
      go_step3
      go_upto_region 5 with (go_at_call 55; ((with_reducible refine cv.mono ?_); rintro e w1 ⟨rfl, hb1⟩))
      clear cv
      go_upto_region 6 with fail
      have hw1 : w.heap.size + 1 ≤ w1.heap.size := by have := hb1.size; simpa using this
      have hB1 := HA.out.trans (hb1.mono (by simp))
      have hq1 := HQ.out.step hb1
      obtain ⟨H, hH⟩ : ∃ H, w1.heap.size = H + 1 := ⟨w1.heap.size - 1, by omega⟩
      have ha1 := (Below.refl w1.heap.size w1).alloc (Nat.le_refl _) (.cells #[.string ⟨#[]⟩, .slice none 0 0, .string ⟨#[]⟩, .int .i64 ((0 : Nat) : Int), .slice none 0 0] 88)
      have hrl : RL (w1.alloc (.cells #[.string ⟨#[]⟩, .slice none 0 0, .string ⟨#[]⟩, .int .i64 ((0 : Nat) : Int), .slice none 0 0] 88)) (H + 1) ⟨#[]⟩ ⟨#[]⟩ none 0 0 0 none 0 0 := by
        rw [← hH]; exact heap_alloc_new w1 _
      have J0 := Lib.hid (invR_first (H := H) hs1 HV.out hrl (hq1.step ha1) (by rw [World.size_alloc, hH]; exact Nat.le_refl _) (hB1.trans (ha1.mono (by omega))) (by omega))
      rw [hH]
      clear hrl ha1 hq1 hB1 hb1 HQ HA hw1 hH
      rw [show Value.int .i64 ((0 : Nat) : Int) = Value.int .i64 0 from rfl] at J0
      generalize w1.alloc (.cells #[.string ⟨#[]⟩, .slice none 0 0, .string ⟨#[]⟩, .int .i64 0, .slice none 0 0] 88) = w2 at J0 ⊢
      clear w1
      go_step3
      go_wp2
      go_loopg [22, 5] s.size (fun gg q e5 wr => ∃ i : Nat, q = .int .i64 i ∧ e5 = .int .i64 0 ∧ i ≤ s.size ∧ s.size - i ≤ gg ∧ Hid (InvR w H (parL s.data.toList) s.data.toList i wr))
      case atStart => exact ⟨0, rfl, rfl, Nat.zero_le _, by omega, J0⟩
      case round =>
        clear J0
        obtain ⟨i, rfl, rfl, hi, hg, J⟩ := hrel
        obtain ⟨m, nm, vl, L, n, c, l, G, k, kc, B, R, M, hki, hni, hvi, hF⟩ := J.out
        have hst := M.st
        clear J
        by_cases hlt : i < s.size
        · have hcb := s[i].toNat_lt
          have hdr : s.data.toList.drop i = s[i] :: s.data.toList.drop (i + 1) := List.drop_eq_getElem_cons (by rw [hsz2]; exact hlt)
          rw [hdr] at hF
          have cg := goesOn_any (H + 1) n c m.st k kc nm vl L G s[i].toNat hcb wr R.rd hst
          have cf := isFull_any (H + 1) n c m.st k kc nm vl L G wr R.rd hst
          have ce := ends_any (H + 1) n c m.st k kc nm vl L G s[i].toNat hcb wr R.rd hst
          rw [goS_go] at cg
          rw [show ((decide (m.st = 0) || decide (m.st = 1)) && decide (k = 64)) = fullM m from by unfold fullM; rw [R.gotlen]] at cf
          rw [show endS m.st (decide (0 < k)) s[i].toNat = endsM m s[i] from by rw [← endS_ends, R.gotlen]] at ce
          have HR := Lib.hid R
          have HM := Lib.hid M
          have HVI := Lib.hid hvi
          have HF := Lib.hid hF
          clear R M hvi hF hdr hcb
          cases hgo : goM m.st s[i]
          · rw [hgo] at cg
            have HGO := Lib.hid hgo
            clear hgo cf
            cases hen : endsM m s[i]
            · rw [hen] at ce
              have HE := Lib.hid ((HF.out.symm).trans (FM_bad _ HGO.out hen))
              clear hen
              go_upto_region 16 with (first
                | (go_at_call 56; ((with_reducible refine cg.mono ?_); rintro e w' ⟨rfl, hw⟩; subst w'))
                | (go_at_call 58; ((with_reducible refine ce.mono ?_); rintro e w' ⟨rfl, q, rfl⟩)))
              have R2 := Lib.hid (HR.out.below (below_drewNL (Below.refl _ wr) q))
              have r := R2.out.res
              unfold P3 at r
              have e0 := set_same (i := 0) (v := .string ⟨#[]⟩) r rfl
              have e1 := set_same (i := 1) (v := .slice none 0 0) r rfl
              have e2 := set_same (i := 2) (v := .string ⟨#[]⟩) r rfl
              obtain ⟨r0, r1, r2⟩ := R2.out.res.cells
              have rf := fun o => R2.out.res.frozen o
              have LP := Lib.hid (load_prop R2.out.res)
              clear r
              go_wp2_with fail
              rw [Exit.noGoto_ret]
              refine bodyPost_ret (results_two rfl _ rfl rfl LP.out) rfl ?_
              exact parAnsF_none HE.out R2.out.bel
            · rw [hen] at ce
              have HEN := Lib.hid hen
              clear hen
              have hln := HR.out.len
              have hpl : m.pars.length = n := by rw [← HR.out.prs, List.length_map, hln]
              clear hln
              by_cases h59 : s[i].toNat = 59
              · have k59 : ((s[i].toNat : Int) == 59) = true := by rw [beq_iff_eq]; omega
                by_cases h16 : n = 16
                · have k16 : ((n : Int) == 16) = true := by rw [beq_iff_eq]; omega
                  have HE := Lib.hid ((HF.out.symm).trans (FM_many _ HGO.out HEN.out ⟨h59, by omega⟩))
                  have ce2 := Lib.hid (ends_cells ce HR.out)
                  clear h59 h16 ce
                  go_upto_region 18 with (first
                    | (go_at_call 56; ((with_reducible refine cg.mono ?_); rintro e w' ⟨rfl, hw⟩; subst w'))
                    | (go_at_call 58; ((with_reducible refine ce2.out.mono ?_); rintro e w' ⟨rfl, q, rfl, x1⟩)))
                  have R2 := Lib.hid (HR.out.below (below_drewNL (Below.refl _ wr) q))
                  have r := R2.out.res
                  unfold P3 at r
                  have e0 := set_same (i := 0) (v := .string ⟨#[]⟩) r rfl
                  have e1 := set_same (i := 1) (v := .slice none 0 0) r rfl
                  have e2 := set_same (i := 2) (v := .string ⟨#[]⟩) r rfl
                  obtain ⟨r0, r1, r2⟩ := R2.out.res.cells
                  have rf := fun o => R2.out.res.frozen o
                  have LP := Lib.hid (load_prop R2.out.res)
                  clear r
                  go_wp2_with fail
                  rw [Exit.noGoto_ret]
                  refine bodyPost_ret (results_two rfl _ rfl rfl LP.out) rfl ?_
                  exact parAnsF_none HE.out R2.out.bel
                · have k16 : ((n : Int) == 16) = false := by rw [beq_eq_false_iff_ne]; omega
                  have HE := Lib.hid ((FM_end _ HGO.out HEN.out (fun h => h16 (by omega))).symm.trans HF.out)
                  have ce2 := Lib.hid (ends_cells ce HR.out)
                  clear h59 h16 ce
                  go_upto_region 10 with (first
                    | (go_at_call 56; ((with_reducible refine cg.mono ?_); rintro e w' ⟨rfl, hw⟩; subst w'))
                    | (go_at_call 58; ((with_reducible refine ce2.out.mono ?_); rintro e w' ⟨rfl, q, rfl, x1⟩)))
                  have R2 := Lib.hid (HR.out.below (below_drewNL (Below.refl _ wr) q))
                  have cd := end_any R2.out HM.out (by omega) (by omega) HVI.out (by omega) s[i] (s[i].toNat : Int) rfl
                  clear x1
                  go_wp2_with (go_at_call 59; ((with_reducible refine cd.mono ?_); rintro e w3 ⟨rfl, nm3, vl3, L3, n3, c3, l3, G3, k3, kc3, B3, R3x, hn3, hk3, hv3⟩))
                  have J1 := Lib.hid (show InvR w H (parL s.data.toList) s.data.toList (i + 1) w3 from ⟨_, nm3, vl3, L3, n3, c3, l3, G3, k3, kc3, B3, R3x, HM.out.done HEN.out, by omega, by omega, hv3, HE.out⟩)
                  clear R3x hv3
                  go_roundg (s.size - (i + 1))
                  case measure => omega
                  case rel => exact ⟨i + 1, by go_num, rfl, by omega, by omega, J1⟩
              · have k59 : ((s[i].toNat : Int) == 59) = false := by rw [beq_eq_false_iff_ne]; omega
                have HE := Lib.hid ((FM_end _ HGO.out HEN.out (fun h => h59 h.1)).symm.trans HF.out)
                clear h59
                go_upto_region 10 with (first
                  | (go_at_call 56; ((with_reducible refine cg.mono ?_); rintro e w' ⟨rfl, hw⟩; subst w'))
                  | (go_at_call 58; ((with_reducible refine ce.mono ?_); rintro e w' ⟨rfl, q, rfl⟩)))
                have R2 := Lib.hid (HR.out.below (below_drewNL (Below.refl _ wr) q))
                have cd := end_any R2.out HM.out (by omega) (by omega) HVI.out (by omega) s[i] (s[i].toNat : Int) rfl
                go_wp2_with (go_at_call 59; ((with_reducible refine cd.mono ?_); rintro e w3 ⟨rfl, nm3, vl3, L3, n3, c3, l3, G3, k3, kc3, B3, R3x, hn3, hk3, hv3⟩))
                have J1 := Lib.hid (show InvR w H (parL s.data.toList) s.data.toList (i + 1) w3 from ⟨_, nm3, vl3, L3, n3, c3, l3, G3, k3, kc3, B3, R3x, HM.out.done HEN.out, by omega, by omega, hv3, HE.out⟩)
                clear R3x hv3
                go_roundg (s.size - (i + 1))
                case measure => omega
                case rel => exact ⟨i + 1, by go_num, rfl, by omega, by omega, J1⟩
          · rw [hgo] at cg
            have HGO := Lib.hid hgo
            clear hgo ce
            cases hfu : fullM m
            · rw [hfu] at cf
              have HE := Lib.hid ((FM_go _ HGO.out hfu).symm.trans HF.out)
              clear hfu
              obtain ⟨x0, x1, x2, x3, x4, xf⟩ := HR.out.rd.cells
              have X6 := Lib.hid (HR.out.below ((Below.refl _ _).alloc (Nat.le_refl _) (.cells #[.int .u8 (s[i].toNat : Int)] 5)))
              go_wp2_with (first
                | (go_at_call 56; ((with_reducible refine cg.mono ?_); rintro e w' ⟨rfl, hw⟩; subst w'))
                | (go_at_call 57; ((with_reducible refine cf.mono ?_); rintro e w' ⟨rfl, hw⟩; subst w'))
                | (at_builtin; refine wpList_append_own _ rfl _ _ 73 rfl (H + 2) 5 u0 (.int .u8 0) 1 1 Tryz.underlying73 hu0 uz0 uz1 uz2 rfl (by decide) _ _ _ rfl X6.out.got ⟨wr.heap.size, 0, none⟩ 1 1 [.int .u8 (s[i].toNat : Int)] rfl rfl (cell_one_new _ _ _) (by simp [Value.oneCell']) (by unfold maxLen; omega) (by omega) (by have := X6.out.hB; have := X6.out.hBW; omega) ?_; intro v' w7 hown7 hgrow7 _; obtain ⟨g7, c7, rfl⟩ := ownsRow_succ hown7; obtain ⟨y0, y1, y2, y3, y4, yf⟩ := (X6.out.after hgrow7 (fun g e => own_row_ge X6.out.got g e)).1.cells))
              have J1 := Lib.hid (show InvR w H (parL s.data.toList) s.data.toList (i + 1) _ from ⟨_, nm, vl, L, n, c, l, _, k + 1, c7, B, HR.out.push ((Below.refl _ _).alloc (Nat.le_refl _) (.cells #[.int .u8 (s[i].toNat : Int)] 5)) (G' := some ⟨g7, 0, none⟩) (kc' := c7) hgrow7 s[i] hown7, HM.out.push HGO.out, by omega, by omega, fun r hr => Nat.le_succ_of_le (HVI.out r hr), HE.out⟩)
              clear hown7 hgrow7
              go_roundg (s.size - (i + 1))
              case measure => omega
              case rel => exact ⟨i + 1, by go_num, rfl, by omega, by omega, J1⟩
            · rw [hfu] at cf
              have HE := Lib.hid ((HF.out.symm).trans (FM_full _ HGO.out hfu))
              clear hfu
              have r := HR.out.res
              unfold P3 at r
              have e0 := set_same (i := 0) (v := .string ⟨#[]⟩) r rfl
              have e1 := set_same (i := 1) (v := .slice none 0 0) r rfl
              have e2 := set_same (i := 2) (v := .string ⟨#[]⟩) r rfl
              obtain ⟨r0, r1, r2⟩ := HR.out.res.cells
              have rf := fun o => HR.out.res.frozen o
              have LP := Lib.hid (load_prop HR.out.res)
              clear r
              go_wp2_with (first
                | (go_at_call 56; ((with_reducible refine cg.mono ?_); rintro e w' ⟨rfl, hw⟩; subst w'))
                | (go_at_call 57; ((with_reducible refine cf.mono ?_); rintro e w' ⟨rfl, hw⟩; subst w')))
              rw [Exit.noGoto_ret]
              refine bodyPost_ret (results_two rfl _ rfl rfl LP.out) rfl ?_
              exact parAnsF_none HE.out HR.out.bel
        · obtain rfl : i = s.size := by omega
          rw [List.drop_eq_nil_of_le (by rw [hsz2]; exact Nat.le_refl _)] at hF
          obtain ⟨x0, x1, x2, x3, x4, xf⟩ := R.rd.cells
          have HR := Lib.hid R
          by_cases h5 : m.st = 5
          · have HE := Lib.hid (show parL s.data.toList = (⟨(keepM m).name, (keepM m).pars, (keepM m).value⟩, 0) from hF.symm.trans (by
              show (if m.st = 5 then _ else _) = _
              rw [if_pos h5]))
            have cd := keep_any R M (by omega) (by omega) hvi (by omega)
            rw [h5] at x3
            clear R M hvi hF h5 hst
            go_upto_region 25 with (go_at_call 60; ((with_reducible refine cd.mono ?_); rintro e w3 ⟨rfl, nm3, vl3, L3, n3, c3, l3, B3, R3x, hn3, hv3⟩))
            obtain ⟨y0, y1, y2, y3, y4, yf⟩ := R3x.rd.cells
            obtain ⟨r0, r1, r2⟩ := R3x.res.cells
            have rf := fun o => R3x.res.frozen o
            have HX := Lib.hid R3x
            have LP := Lib.hid R3x.finF
            clear R3x hv3
            go_wp2_with fail
            rw [Exit.noGoto_ret]
            refine bodyPost_ret (results_two rfl _ rfl rfl (load_prop LP.out.1)) rfl ?_
            exact ⟨nm3, vl3, L3, n3, c3, l3, by rw [HE.out]; rfl, by rw [HE.out, HX.out.nmE, HX.out.vlE, HX.out.prs], LP.out.2⟩
          · have k5 : ((m.st : Int) != 5) = true := by rw [bne_iff_ne]; omega
            have HE := Lib.hid (hF.symm.trans (FM_nil h5))
            clear R M hvi hF h5
            have r := HR.out.res
            unfold P3 at r
            have e0 := set_same (i := 0) (v := .string ⟨#[]⟩) r rfl
            have e1 := set_same (i := 1) (v := .slice none 0 0) r rfl
            have e2 := set_same (i := 2) (v := .string ⟨#[]⟩) r rfl
            obtain ⟨r0, r1, r2⟩ := HR.out.res.cells
            have rf := fun o => HR.out.res.frozen o
            have LP := Lib.hid (load_prop HR.out.res)
            clear r
            go_wp2_with fail
            rw [Exit.noGoto_ret]
            refine bodyPost_ret (results_two rfl _ rfl rfl LP.out) rfl ?_
            exact parAnsF_none HE.out HR.out.bel
theorem pParse_any0 (s : ByteArray) (w : World) (hf : Forms w) : Calls Tryz.prog 33 #[.string s] w (ParAns s w) := (pParse_anyF s w hf).mono fun _ _ h => h.plain
end Go.Proofs.YtlfhhnjdfpgadaaGreatDoor

/-
  The program's marked: the name of the component that a BEGIN or an END marks.
-/
namespace Go.Proofs.YtlfhhnjdfpgadaaGreatDoor
open Go.RowKit

theorem nb_of_up {c : UInt8} (h : nbC (upC c) = true) : nbC c = true := by
  have key : ∀ n : Fin 256, nbC (upC (UInt8.ofNat n.val)) = true → nbC (UInt8.ofNat n.val) = true := by decide +kernel
  have := key ⟨c.toNat, c.toNat_lt⟩
  simp only [UInt8.ofNat_toNat] at this
  exact this h
theorem mark_text {v : List UInt8} (h : nameB (upL v) = true) : parL (v ++ [58]) = (⟨upL v, [], []⟩, 0) := by
  obtain ⟨h1, h2, h3, h4⟩ := (nameB_iff _).1 h
  have hv : v.all nbC = true := by
    rw [List.all_eq_true] at h1 ⊢
    intro c hc
    exact nb_of_up (h1 (upC c) (List.mem_map_of_mem hc))
  have hl : v.length ≤ 64 := by simpa [upL] using h3
  have hne : v ≠ [] := fun e => h2 (by rw [e]; rfl)
  have htw : (v ++ [58]).takeWhile nbC = v := tw_all hv (fun c hc => by
    simp only [List.head?_cons, Option.some.injEq] at hc
    subst hc
    decide)
  have hvl : vld (v ++ [58]) = true := by
    have := vld_bytes (v ++ [58]) [] (fun c hc => by
      rcases List.mem_append.1 hc with hc | hc
      · have := List.all_eq_true.1 hv c hc
        have k : ∀ n : Fin 256, nbC (UInt8.ofNat n.val) = true → n.val < 128 := by decide +kernel
        have k2 := k ⟨c.toNat, c.toNat_lt⟩
        simp only [UInt8.ofNat_toNat] at k2
        exact k2 this
      · rw [List.mem_singleton.1 hc]; decide)
    rw [List.append_nil] at this
    rw [this]; decide +kernel
  unfold parL
  rw [if_neg (by rw [List.length_append, List.length_singleton]; omega), if_pos hvl]
  have hn : rdName (v ++ [58]) = .ok (upL v) [58] := by
    unfold rdName
    rw [htw, if_neg (by omega), if_neg hne]
    simp
  unfold rdRest
  rw [hn]
  dsimp only
  rfl
theorem text_mark {v : List UInt8} (h : (parL (v ++ [58])).2 = 0) (hl : (parL (v ++ [58])).1.name.length = v.length) : nameB (upL v) = true := by
  unfold parL at h hl
  split at h
  · cases h
  · rename_i hlen
    rw [if_neg hlen] at hl
    split at h
    · rename_i hv
      rw [if_pos hv] at hl
      cases hr : rdRest (v ++ [58]) with
      | bad e =>
        rw [hr] at h
        exact absurd h (rdRest_nz hr)
      | ok p r =>
        rw [hr] at hl
        dsimp only at hl
        have hn : ∃ n r2, rdName (v ++ [58]) = .ok n r2 ∧ p.name = n := by
          unfold rdRest at hr
          split at hr
          · cases hr
          · rename_i n r2 hn
            split at hr
            · cases hr
            · split at hr
              · split at hr
                · injection hr with hr _
                  subst hr
                  exact ⟨n, r2, hn, rfl⟩
                · cases hr
              · cases hr
        obtain ⟨n, r2, hn, hpn⟩ := hn
        have hv64 := (rdName_snd hn hv).1
        unfold rdName at hn
        split at hn
        · cases hn
        · split at hn
          · cases hn
          · injection hn with hn _
            rw [hpn, ← hn] at hl
            rw [← hn] at hv64
            have hlt : ((v ++ [58]).takeWhile nbC).length = v.length := by simpa [upL] using hl
            have hpre : (v ++ [58]).takeWhile nbC = v := by
              have h1 := (List.takeWhile_prefix nbC (l := v ++ [58]))
              rw [List.prefix_iff_eq_take.1 h1, hlt]
              simp
            rw [hpre] at hv64
            exact (nameB_iff _).2 hv64
    · rename_i hv
      exact absurd h (by decide)
/-- What a call of marked answers. -/
def MkAns (n : Nat) (vl : ByteArray) (w : World) (e : Ending) (w' : World) : Prop :=
  ∃ (t : ByteArray) (b : Bool), e = .returned (.tuple #[.string t, .bool b]) ∧ (b = true ↔ (n = 0 ∧ nameB (upL vl.data.toList) = true)) ∧ (b = true → t.data.toList = upL vl.data.toList) ∧ Below w.heap.size w w'
set_option maxRecDepth 100000 in
set_option maxHeartbeats 4000000 in
theorem marked_any (nm vl : ByteArray) (L : Option Addr) (n c : Nat) (w : World) (hs : vl.size ≤ 1048576) (hf : Forms w) : Calls Tryz.prog 34 #[.agg #[.string nm, .slice L n c, .string vl]] w (MkAns n vl w) := by
  have hb1 : Below w.heap.size w (w.alloc (.cells #[.string nm, .slice L n c, .string vl] 30)) := (Below.refl _ w).alloc (Nat.le_refl _) _
  have P1 := Lib.hid (P3.new w nm vl L n c)
  have HB := Lib.hid hb1
  have cp := pParse_anyF (vl ++ ⟨#[58]⟩) _ (hf.step hb1)
  have hda : (vl ++ ⟨#[58]⟩).data.toList = vl.data.toList ++ [58] := by simp
  have HP := Lib.hid (show (parL (vl.data.toList ++ [58])).2 = 0 → (parL (vl.data.toList ++ [58])).1.name.length = vl.data.toList.length → nameB (upL vl.data.toList) = true from text_mark)
  have HP2 := Lib.hid (show nameB (upL vl.data.toList) = true → parL (vl.data.toList ++ [58]) = (⟨upL vl.data.toList, [], []⟩, 0) from mark_text)
  have no1 : ¬ 9223372036854775807 < vl.size + (⟨#[58]⟩ : ByteArray).size := by rw [show (⟨#[58]⟩ : ByteArray).size = 1 from rfl]; omega
  unfold ParAnsF at cp
  rw [hda] at cp
  clear hda hb1 hs
  go_enter Tryz.func34, Tryz.ntmps34
  obtain ⟨x0, x1, x2⟩ := P1.out.cells
  go_wp2_with fail
  refine cp.mono ?_
  rintro e w2 ⟨qn, qv, qL, qk, qc, ql, rfl, hpq, _, _, _, hb2⟩
  obtain ⟨k, hk⟩ : ∃ k, (parL (vl.data.toList ++ [58])).2 = k := ⟨_, rfl⟩
  rw [hk]
  have HK := Lib.hid hk
  have HQ := Lib.hid (congrArg Pro.name hpq)
  have P2 := Lib.hid ((P1.out.step hb2).step ((Below.refl _ w2).alloc (Nat.le_refl _) (.cells #[.string qn, .slice qL qk qc, .string qv] 30)))
  have P3' := Lib.hid (P3.new w2 qn qv qL qk qc)
  have HB3 := Lib.hid ((bstep HB.out hb2).alloc (Nat.le_trans HB.out.size hb2.size) (.cells #[.string qn, .slice qL qk qc, .string qv] 30))
  clear cp hpq hb2 hk x0 x1 x2 P1 HB no1
  go_upto_region 2 with fail
  generalize w2.alloc (.cells #[.string qn, .slice qL qk qc, .string qv] 30) = w3 at P2 P3' HB3 ⊢
  obtain ⟨x0, x1, x2⟩ := P2.out.cells
  obtain ⟨y0, y1, y2⟩ := P3'.out.cells
  have sq : qn.size = qn.data.toList.length := bsize qn
  have sv : vl.size = vl.data.toList.length := bsize vl
  have HS := Lib.hid (And.intro sq sv)
  clear sq sv
  by_cases h1 : k = 0
  · subst h1
    by_cases h2 : qn.size = vl.size
    · have HN := Lib.hid (HP.out HK.out (by rw [HQ.out]; show qn.data.toList.length = _; rw [← HS.out.1, ← HS.out.2, h2]))
      have e2 : ((qn.size : Int) == (vl.size : Int)) = true := by rw [h2]; simp
      have HE := Lib.hid h2
      clear h2
      by_cases h3 : n = 0
      · subst h3
        go_quiet (fail)
        go_wp2
        go_ret2
        refine ⟨_, _, rfl, by simp [HN.out], fun _ => ?_, below_dr HB3.out _⟩
        have := HQ.out
        rw [HP2.out HN.out] at this
        exact this.symm
      · have e3 : ((n : Int) == 0) = false := by rw [beq_eq_false_iff_ne]; omega
        go_quiet (fail)
        go_wp2
        go_ret2
        exact ⟨_, _, rfl, by simp [h3], fun h => (by cases h), below_dr HB3.out _⟩
    · have e2 : ((qn.size : Int) == (vl.size : Int)) = false := by rw [beq_eq_false_iff_ne]; omega
      have HE := Lib.hid h2
      clear h2
      go_quiet (fail)
      go_wp2
      go_ret2
      refine ⟨_, _, rfl, ⟨fun h => (by cases h), fun h => ?_⟩, fun h => (by cases h), below_dr HB3.out _⟩
      have := HQ.out
      rw [HP2.out h.2] at this
      have h5 := congrArg List.length this
      exact absurd (by rw [HS.out.1, HS.out.2, ← h5]; simp [upL]) HE.out
  · have e1 : (k == 0) = false := by rw [beq_eq_false_iff_ne]; exact h1
    have H1 := Lib.hid h1
    clear h1
    go_quiet (fail)
    go_wp2
    go_ret2
    refine ⟨_, _, rfl, ⟨fun h => (by cases h), fun h => ?_⟩, fun h => (by cases h), below_dr HB3.out _⟩
    have := HK.out
    rw [HP2.out h.2] at this
    exact absurd this.symm H1.out
end Go.Proofs.YtlfhhnjdfpgadaaGreatDoor
