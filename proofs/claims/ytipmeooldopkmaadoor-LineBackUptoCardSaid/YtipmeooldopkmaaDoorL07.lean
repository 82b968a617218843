/-
  The document's own answers of layer 11: names, and values as they may be.
-/
import Derived.Test.YtipmeooldopkmaaDoorL06
import Derived.Test.YtipmeooldopkmaaDoorL03
import Derived.Lib.IndexMore
import Derived.WalkSpells
import Derived.WalkLawsBesides
namespace Go.Proofs.YtipmeooldopkmaaDoor
open Go.RowKit

/-- A name in great letters, told. -/
def nameB (l : List UInt8) : Bool := l.all nbC && (decide (l ≠ []) && (decide (l.length ≤ 64) && decide (upL l = l)))
def pvC (q : Bool) (c : UInt8) : Bool := !ctlN c.toNat && (q || !decide (c.toNat = 34))
/-- A value's bytes, told; q: a " may be there. -/
def plainB (l : List UInt8) (q : Bool) : Bool := l.all (pvC q) && vld l
theorem nameB_iff (l : List UInt8) : nameB l = true ↔ nameOk l := by
  unfold nameB nameOk
  simp [Bool.and_eq_true]
theorem plainB_iff (l : List UInt8) : plainB l false = true ↔ plainOk l := by
  unfold plainB plainOk
  have e : (pvC false : UInt8 → Bool) = qvC := by
    funext c; unfold pvC qvC
    simp [Bool.and_comm]
  rw [Bool.and_eq_true, e]
theorem valueB_iff (l : List UInt8) : plainB l true = true ↔ valueOk l := by
  unfold plainB valueOk
  have e : (pvC true : UInt8 → Bool) = fun c => !ctlN c.toNat := by
    funext c; unfold pvC; simp
  rw [Bool.and_eq_true, e]
theorem all_drop {f : UInt8 → Bool} {s : ByteArray} {k : Nat} (hk : k < s.size) : (s.data.toList.drop k).all f = (f s[k] && (s.data.toList.drop (k + 1)).all f) := by
  have h' : k < s.data.toList.length := by rw [← bsize]; exact hk
  rw [List.drop_eq_getElem_cons h', List.all_cons]
  rfl
theorem strEqL (a b : ByteArray) : (a.toList == b.toList) = decide (a.data.toList = b.data.toList) := by
  rw [ByteArray.toList_eq, ByteArray.toList_eq]
  by_cases h : a.data.toList = b.data.toList
  · rw [h]; simp
  · rw [decide_eq_false h]; simpa using h
theorem list_mk (l : List UInt8) : (⟨l.toArray⟩ : ByteArray).data.toList = l := by simp

set_option maxRecDepth 100000 in
set_option maxHeartbeats 4000000 in
theorem refNameOf_any (s : ByteArray) (hs : s.size ≤ 16777216) (w : World) :
    Calls Tryd.prog 42 #[.string s] w fun e w' => e = .returned (.bool (nameB s.data.toList)) ∧ Below w.heap.size w w' := by
  have E0 := Lib.hid (show nameB s.data.toList = (s.data.toList.all nbC && (decide (s.data.toList ≠ []) && (decide (s.data.toList.length ≤ 64) && decide (upL s.data.toList = s.data.toList)))) from rfl)
  have HS := Lib.hid (bsize s)
  go_enter Tryd.func42, Tryd.ntmps42
  go_wp2
  go_loopw [3] (fun p wr => ∃ k : Nat, p = .int .i64 k ∧ k ≤ s.size ∧ wr = w ∧ Hid (s.data.toList.all nbC = (s.data.toList.drop k).all nbC)) (fun p _ => s.size - (intOf p).toNat)
  case atStart => exact ⟨0, rfl, Nat.zero_le _, rfl, Lib.hid rfl⟩
  case round =>
    obtain ⟨k, rfl, hk, rfl, HA⟩ := hrel
    by_cases hlt : k < s.size
    · have hcb := s[k].toNat_lt
      have cc := fun W => refNameByte_any s[k].toNat hcb W
      have ha := all_drop (f := nbC) hlt
      cases hb : nbN s[k].toNat
      · rw [hb] at cc
        have E : Hid (nameB s.data.toList = false) := Lib.hid (by rw [E0.out, HA.out, ha]; show (nbN s[k].toNat && _ && _) = false; rw [hb]; rfl)
        clear ha hb
        go_wp2_with (go_at_call 57; ((with_reducible refine (cc _).mono ?_); rintro e w' ⟨rfl, hw⟩; subst w'))
        go_ret
        exact ⟨by rw [E.out]; rfl, Below.refl _ _⟩
      · rw [hb] at cc
        have HA2 : Hid (s.data.toList.all nbC = (s.data.toList.drop (k + 1)).all nbC) := Lib.hid (by rw [HA.out, ha]; show (nbN s[k].toNat && _) = _; rw [hb]; rfl)
        clear ha hb
        go_wp2_with (go_at_call 57; ((with_reducible refine (cc _).mono ?_); rintro e w' ⟨rfl, hw⟩; subst w'))
        go_round
        case rel => exact ⟨k + 1, by go_num, by omega, by first | rfl | trivial, HA2⟩
        case measure => simp [intOf]; omega
    · obtain rfl : k = s.size := by omega
      have hall : s.data.toList.all nbC = true := by rw [HA.out, List.drop_eq_nil_of_le (by rw [← HS.out]; exact Nat.le_refl _)]; rfl
      rw [hall, Bool.true_and] at E0
      clear hall HA
      have hne := strEqL s ⟨#[]⟩
      by_cases h0 : s.data.toList = []
      · have E : Hid (nameB s.data.toList = false) := Lib.hid (by rw [E0.out, decide_eq_false (by simpa using h0)]; rfl)
        rw [decide_eq_true (by rw [h0])] at hne
        have hn2 : (s.toList != (⟨#[]⟩ : ByteArray).toList) = false := by unfold bne; rw [hne]; rfl
        obtain rfl : s = ⟨#[]⟩ := by rw [← mk_toList s, h0]
        clear h0
        go_wp2
        go_ret
        exact ⟨by rw [E.out]; rfl, Below.refl _ _⟩
      · rw [decide_eq_false h0] at hne
        have hn0 : (s.toList == []) = false := by rw [beq_eq_false_iff_ne, ByteArray.toList_eq]; exact h0
        have hn2 : (s.toList != []) = true := by unfold bne; rw [hn0]; rfl
        clear hne
        rw [decide_eq_true (show s.data.toList ≠ [] from h0), Bool.true_and, ← HS.out] at E0
        clear h0
        by_cases h64 : s.size ≤ 64
        · rw [decide_eq_true h64, Bool.true_and] at E0
          have cu := fun W => refUpper_any s hs W
          have he := strEqL ⟨(upL s.data.toList).toArray⟩ s
          rw [list_mk] at he
          generalize decide (upL s.data.toList = s.data.toList) = b at *
          generalize (⟨(upL s.data.toList).toArray⟩ : ByteArray) = u at *
          go_wp2_with (go_at_call 58; ((with_reducible refine (cu _).mono ?_); rintro e w1 ⟨rfl, hb1⟩))
          go_ret
          exact ⟨by rw [E0.out]; rfl, hb1⟩
        · have E : Hid (nameB s.data.toList = false) := Lib.hid (by rw [E0.out, decide_eq_false h64]; rfl)
          have h64b : decide ((s.size : Int) ≤ 64) = false := decide_eq_false (by omega)
          go_wp2
          go_ret
          exact ⟨by rw [E.out]; rfl, Below.refl _ _⟩

set_option maxRecDepth 100000 in
set_option maxHeartbeats 4000000 in
theorem refPlain_any (s : ByteArray) (hs : s.size ≤ 16777216) (q : Bool) (w : World) :
    Calls Tryd.prog 43 #[.string s, .bool q] w fun e w' => e = .returned (.bool (plainB s.data.toList q)) ∧ w' = w := by
  have E0 := Lib.hid (show plainB s.data.toList q = (s.data.toList.all (pvC q) && vld s.data.toList) from rfl)
  have HS := Lib.hid (bsize s)
  have cv := fun W => refValid_any s hs W
  go_enter Tryd.func43, Tryd.ntmps43
  go_wp2
  go_loopw [5] (fun p wr => ∃ k : Nat, p = .int .i64 k ∧ k ≤ s.size ∧ wr = w ∧ Hid (s.data.toList.all (pvC q) = (s.data.toList.drop k).all (pvC q))) (fun p _ => s.size - (intOf p).toNat)
  case atStart => exact ⟨0, rfl, Nat.zero_le _, rfl, Lib.hid rfl⟩
  case round =>
    obtain ⟨k, rfl, hk, rfl, HA⟩ := hrel
    by_cases hlt : k < s.size
    · have hcb := s[k].toNat_lt
      have cc := fun W => refControl_any s[k].toNat hcb W
      have ha := all_drop (f := pvC q) hlt
      have HP := Lib.hid (show pvC q s[k] = (!ctlN s[k].toNat && (q || !decide (s[k].toNat = 34))) from rfl)
      clear cv
      cases hb : ctlN s[k].toNat
      · rw [hb] at cc HP
        cases q
        · by_cases h34 : s[k].toNat = 34
          · have E : Hid (plainB s.data.toList false = false) := Lib.hid (by rw [E0.out, HA.out, ha, HP.out, decide_eq_true h34]; rfl)
            have m34 : ((s[k].toNat : Int) == 34) = true := by rw [beq_iff_eq]; omega
            clear ha hb h34
            go_wp2_with (go_at_call 33; ((with_reducible refine (cc _).mono ?_); rintro e w' ⟨rfl, hw⟩; subst w'))
            go_ret
            exact ⟨by rw [E.out]; rfl, rfl⟩
          · have m34 : ((s[k].toNat : Int) == 34) = false := by rw [beq_eq_false_iff_ne]; omega
            have HA2 : Hid (s.data.toList.all (pvC false) = (s.data.toList.drop (k + 1)).all (pvC false)) := Lib.hid (by rw [HA.out, ha, HP.out, decide_eq_false h34]; rfl)
            clear ha hb h34
            go_wp2_with (go_at_call 33; ((with_reducible refine (cc _).mono ?_); rintro e w' ⟨rfl, hw⟩; subst w'))
            go_round
            case rel => exact ⟨k + 1, by go_num, by omega, by first | rfl | trivial, HA2⟩
            case measure => simp [intOf]; omega
        · have HA2 : Hid (s.data.toList.all (pvC true) = (s.data.toList.drop (k + 1)).all (pvC true)) := Lib.hid (by rw [HA.out, ha, HP.out]; rfl)
          clear ha hb
          go_wp2_with (go_at_call 33; ((with_reducible refine (cc _).mono ?_); rintro e w' ⟨rfl, hw⟩; subst w'))
          go_round
          case rel => exact ⟨k + 1, by go_num, by omega, by first | rfl | trivial, HA2⟩
          case measure => simp [intOf]; omega
      · rw [hb] at cc HP
        have E : Hid (plainB s.data.toList q = false) := Lib.hid (by rw [E0.out, HA.out, ha, HP.out]; rfl)
        clear ha hb
        go_wp2_with (go_at_call 33; ((with_reducible refine (cc _).mono ?_); rintro e w' ⟨rfl, hw⟩; subst w'))
        go_ret
        exact ⟨by rw [E.out]; rfl, rfl⟩
    · obtain rfl : k = s.size := by omega
      have hall : s.data.toList.all (pvC q) = true := by rw [HA.out, List.drop_eq_nil_of_le (by rw [← HS.out]; exact Nat.le_refl _)]; rfl
      rw [hall, Bool.true_and] at E0
      clear hall HA
      generalize vld s.data.toList = b at *
      go_wp2_with (go_at_call 27; ((with_reducible refine (cv _).mono ?_); rintro e w' ⟨rfl, hw⟩; subst w'))
      go_ret
      exact ⟨by rw [E0.out]; rfl, rfl⟩

end Go.Proofs.YtipmeooldopkmaaDoor

/-
  The document's own answers of layer 11: a parameter's first value.
-/
namespace Go.Proofs.YtipmeooldopkmaaDoor
open Go.RowKit

/-- The block g is a property's variable. -/
def P3 (w : World) (g : Nat) (nm vl : ByteArray) (L : Option Addr) (n c : Nat) : Prop := w.heap[g]? = some (.cells #[.string nm, .slice L n c, .string vl] 24 (0, 0))
section
variable {w w' : World} {g n c : Nat} {nm vl : ByteArray} {L : Option Addr}
theorem P3.lt (h : P3 w g nm vl L n c) : g < w.heap.size := by
  rcases Nat.lt_or_ge g w.heap.size with hlt | hge
  · exact hlt
  · unfold P3 at h; rw [Array.getElem?_eq_none hge] at h; cases h
theorem P3.cells (h : P3 w g nm vl L n c) : w.cell? ⟨g, 0, none⟩ = some (.string nm) ∧ w.cell? ⟨g, 1, none⟩ = some (.slice L n c) ∧ w.cell? ⟨g, 2, none⟩ = some (.string vl) := by
  unfold P3 at h
  exact ⟨by simp [World.cell?, h], by simp [World.cell?, h], by simp [World.cell?, h]⟩
theorem P3.new (w : World) (nm vl : ByteArray) (L : Option Addr) (n c : Nat) : P3 (w.alloc (.cells #[.string nm, .slice L n c, .string vl] 24)) w.heap.size nm vl L n c := heap_alloc_new w _
theorem P3.step (h : P3 w g nm vl L n c) (hb : Below w.heap.size w w') : P3 w' g nm vl L n c := (hb.block g h.lt).trans h
end
/-- A property as it reads: its variable, its parameters, their values. -/
structure PA (w : World) (g : Nat) (nm vl : ByteArray) (L : Option Addr) (n c : Nat) (l : List PR) : Prop where
  bx : P3 w g nm vl L n c
  rd : Reads w w.heap.size 2 L n (encP l)
  vs : ∀ r ∈ l, POk w w.heap.size r
  le : n ≤ c
  cap : c ≤ maxLen
section
variable {w w' : World} {g n c : Nat} {nm vl : ByteArray} {L : Option Addr} {l : List PR}
theorem POk.step {r : PR} (h : POk w w.heap.size r) (hb : Below w.heap.size w w') : POk w' w'.heap.size r := ⟨h.rd.step hb, h.le, h.cap⟩
theorem PA.step (h : PA w g nm vl L n c l) (hb : Below w.heap.size w w') : PA w' g nm vl L n c l := ⟨h.bx.step hb, h.rd.step hb, fun r hr => (h.vs r hr).step hb, h.le, h.cap⟩
theorem PA.new (hR : Reads w w.heap.size 2 L n (encP l)) (hP : ∀ r ∈ l, POk w w.heap.size r) (hn : n ≤ c) (hc : c ≤ maxLen) (nm vl : ByteArray) : PA (w.alloc (.cells #[.string nm, .slice L n c, .string vl] 24)) w.heap.size nm vl L n c l :=
  have hb : Below w.heap.size w (w.alloc (.cells #[.string nm, .slice L n c, .string vl] 24)) := (Below.refl _ w).alloc (Nat.le_refl _) _
  ⟨P3.new w nm vl L n c, hR.step hb, fun r hr => (hP r hr).step hb, hn, hc⟩
theorem PA.len (h : PA w g nm vl L n c l) : l.length = n := by
  have := h.rd.1
  rw [encP_length] at this
  omega
/-- The place of a parameter. -/
theorem PA.at (h : PA w g nm vl L n c l) {i : Nat} {r : PR} (hr : l[i]? = some r) :
    ∃ b o, L = some ⟨b, o, none⟩ ∧ w.cell? ⟨b, o + i * 2, none⟩ = some (.string r.name) ∧ w.cell? ⟨b, o + i * 2 + 1, none⟩ = some (.slice r.K r.k r.kc) := by
  obtain ⟨b, o, e, _, c0, c1⟩ := h.rd.par hr
  exact ⟨b, o, e, c0, c1⟩
/-- The place of a parameter's value. -/
theorem POk.at {B : Nat} {r : PR} (h : POk w B r) {j : Nat} {v : ByteArray} (hv : r.vs[j]? = some v) : ∃ b o, r.K = some ⟨b, o, none⟩ ∧ w.cell? ⟨b, o + j, none⟩ = some (.string v) := by
  have hl := h.rd.1
  rw [encS_length] at hl
  have hj := (List.getElem?_eq_some_iff.1 hv).1
  obtain ⟨b, o, e, _, hc⟩ := h.rd.2 (by omega)
  refine ⟨b, o, e, hc j _ ?_⟩
  unfold encS
  rw [List.getElem?_map, hv]; rfl
theorem POk.len {B : Nat} {r : PR} (h : POk w B r) : r.vs.length = r.k := by
  have := h.rd.1
  rw [encS_length] at this
  omega
end
/-- What Param tells. -/
def prmV : List PR → ByteArray → ByteArray × Bool
  | [], _ => (⟨#[]⟩, false)
  | r :: l, nm => if r.name.data.toList = nm.data.toList then (match r.vs with | [] => (⟨#[]⟩, false) | v :: _ => (v, true)) else prmV l nm
theorem prm_step {l : List PR} {i : Nat} {r : PR} (hr : l[i]? = some r) (nm : ByteArray) : prmV (l.drop i) nm = if r.name.data.toList = nm.data.toList then (match r.vs with | [] => (⟨#[]⟩, false) | v :: _ => (v, true)) else prmV (l.drop (i + 1)) nm := by
  obtain ⟨hi, e⟩ := List.getElem?_eq_some_iff.1 hr
  rw [List.drop_eq_getElem_cons hi, prmV, e]

set_option maxRecDepth 100000 in
set_option maxHeartbeats 4000000 in
theorem refParam_any (nm vl name : ByteArray) (L : Option Addr) (n c : Nat) (l : List PR) (w : World) (hR : Reads w w.heap.size 2 L n (encP l)) (hP : ∀ r ∈ l, POk w w.heap.size r) (hn : n ≤ c) (hc : c ≤ maxLen) :
    Calls Tryd.prog 11 #[.agg #[.string nm, .slice L n c, .string vl], .string name] w fun e w' => e = .returned (.tuple #[.string (prmV l name).1, .bool (prmV l name).2]) ∧ Below w.heap.size w w' := by
  have HA := Lib.hid (PA.new hR hP hn hc nm vl)
  have HB : Hid (Below w.heap.size w (w.alloc (.cells #[.string nm, .slice L n c, .string vl] 24))) := Lib.hid ((Below.refl _ w).alloc (Nat.le_refl _) _)
  have hnm : n ≤ 9223372036854775807 := by have := hc; unfold maxLen at this; omega
  clear hR hP hn hc
  go_enter Tryd.func11, Tryd.ntmps11
  have HL := Lib.hid HA.out.len
  generalize hW : w.alloc (.cells #[.string nm, .slice L n c, .string vl] 24) = w1 at HA HB
  go_wp2
  clear hW
  go_loopw [6] (fun p wr => ∃ i : Nat, p = .int .i64 i ∧ i ≤ n ∧ wr = w1 ∧ Hid (prmV l name = prmV (l.drop i) name)) (fun p _ => n - (intOf p).toNat)
  case atStart => exact ⟨0, rfl, Nat.zero_le _, rfl, Lib.hid rfl⟩
  case round =>
    obtain ⟨i, rfl, hi, rfl, HV⟩ := hrel
    obtain ⟨p0, p1, p2⟩ := HA.out.bx.cells
    by_cases hlt : i < n
    · obtain ⟨r, hr⟩ : ∃ r, l[i]? = some r := ⟨l[i]'(by have := HL.out; omega), List.getElem?_eq_getElem (by have := HL.out; omega)⟩
      obtain ⟨b, o, hLe, q0, q1⟩ := HA.out.at hr
      have hPO := HA.out.vs r (List.mem_of_getElem? hr)
      have hst := prm_step hr name
      have hq := strEqL r.name name
      have hkl := hPO.len
      have hkm : r.k ≤ 9223372036854775807 := by have := hPO.le; have := hPO.cap; unfold maxLen at this; omega
      by_cases he : r.name.data.toList = name.data.toList
      · rw [if_pos he] at hst
        rw [decide_eq_true he] at hq
        by_cases h0 : r.k = 0
        · have hv : r.vs = [] := List.eq_nil_of_length_eq_zero (by omega)
          rw [hv] at hst
          have E : Hid (prmV l name = (⟨#[]⟩, false)) := Lib.hid (HV.out.trans hst)
          have h0b : ((r.k : Int) == 0) = true := by rw [beq_iff_eq]; omega
          clear hst he hv hkl hPO h0
          subst hLe
          go_wp2
          go_ret2
          exact ⟨by rw [E.out]; rfl, HB.out⟩
        · obtain ⟨v, hv⟩ : ∃ v, r.vs[0]? = some v := ⟨r.vs[0]'(by omega), List.getElem?_eq_getElem (by omega)⟩
          obtain ⟨b2, o2, hKe, q2⟩ := hPO.at hv
          rw [Nat.add_zero] at q2
          have hv2 : (match r.vs with | [] => ((⟨#[]⟩ : ByteArray), false) | v :: _ => (v, true)) = (v, true) := by
            cases hvs : r.vs with
            | nil => rw [hvs] at hv; cases hv
            | cons x xs => rw [hvs] at hv; simp at hv; rw [hv]
          rw [hv2] at hst
          have E : Hid (prmV l name = (v, true)) := Lib.hid (HV.out.trans hst)
          have h0b : ((r.k : Int) == 0) = false := by rw [beq_eq_false_iff_ne]; omega
          have h0c : (0 : Int) < (r.k : Int) := by omega
          rw [hKe] at q1
          clear hst he hv hv2 hkl hPO h0 hKe
          subst hLe
          go_wp2
          go_ret2
          exact ⟨by rw [E.out]; rfl, HB.out⟩
      · rw [if_neg he] at hst
        rw [decide_eq_false he] at hq
        have HV2 := Lib.hid (HV.out.trans hst)
        clear hst he hkl hPO
        subst hLe
        go_wp2
        go_round
        case rel => exact ⟨i + 1, by go_num, by omega, by first | rfl | trivial, HV2⟩
        case measure => simp [intOf]; omega
    · obtain rfl : i = n := by omega
      have E : Hid (prmV l name = (⟨#[]⟩, false)) := Lib.hid (by rw [HV.out, List.drop_eq_nil_of_le (by rw [HL.out]; exact Nat.le_refl _)]; rfl)
      go_wp2
      go_ret2
      exact ⟨by rw [E.out]; rfl, HB.out⟩

end Go.Proofs.YtipmeooldopkmaaDoor

/-
  Plain mathematics for layer 11 (line): a property's text, piece by piece, and how long it is.
-/
namespace Go.Proofs.YtipmeooldopkmaaDoor
open Go.RowKit

def parOf (r : PR) : Par := ⟨r.name.data.toList, r.vs.map fun v => v.data.toList⟩
/-- A property that is handed in, as plain lists. -/
def proOf (nm : ByteArray) (l : List PR) (vl : ByteArray) : Pro := ⟨nm.data.toList, l.map parOf, vl.data.toList⟩
theorem valsL_snoc (vs : List (List UInt8)) (v : List UInt8) : valsL (vs ++ [v]) = valsL vs ++ ((if vs = [] then [] else [44]) ++ quoteL v) := by
  cases vs with
  | nil => simp [valsL, moreL]
  | cons x vs => simp [valsL, moreL]
/-- Values as far as k. -/
def valsK (r : PR) (k : Nat) : List UInt8 := valsL ((r.vs.take k).map fun v => v.data.toList)
theorem valsK_zero (r : PR) : valsK r 0 = [] := rfl
theorem valsK_step {r : PR} {k : Nat} {v : ByteArray} (h : r.vs[k]? = some v) : valsK r (k + 1) = valsK r k ++ ((if k = 0 then [] else [44]) ++ quoteL v.data.toList) := by
  obtain ⟨hk, e⟩ := List.getElem?_eq_some_iff.1 h
  unfold valsK
  rw [List.take_succ_eq_append_getElem hk, List.map_append, List.map_cons, List.map_nil, valsL_snoc, e]
  by_cases h0 : k = 0
  · subst h0; simp
  · have h1 : ¬ ((r.vs.take k).map fun v => v.data.toList) = [] := by
      intro hh
      have := congrArg List.length hh
      simp only [List.length_map, List.length_take, List.length_nil] at this
      omega
    rw [if_neg h1, if_neg h0]
theorem valsK_all {r : PR} {k : Nat} (h : r.vs.length ≤ k) : valsK r k = valsL (parOf r).vals := by
  unfold valsK parOf
  rw [List.take_of_length_le h]
/-- A property's text as far as i parameters. -/
def preL (nm : ByteArray) (l : List PR) (i : Nat) : List UInt8 := nm.data.toList ++ ((l.take i).map parOf).flatMap parT
theorem preL_zero (nm : ByteArray) (l : List PR) : preL nm l 0 = nm.data.toList := by simp [preL]
theorem preL_step {nm : ByteArray} {l : List PR} {i : Nat} {r : PR} (h : l[i]? = some r) : preL nm l (i + 1) = preL nm l i ++ (59 :: (r.name.data.toList ++ 61 :: valsL (parOf r).vals)) := by
  obtain ⟨hi, e⟩ := List.getElem?_eq_some_iff.1 h
  unfold preL
  rw [List.take_succ_eq_append_getElem hi, e]
  simp [parT, parOf]
theorem preL_all {nm vl : ByteArray} {l : List PR} {i : Nat} (h : l.length ≤ i) : preL nm l i ++ 58 :: vl.data.toList = textL (proOf nm l vl) := by
  unfold preL textL proOf
  rw [List.take_of_length_le h]
  simp
theorem quoteL_len (v : List UInt8) : (quoteL v).length ≤ v.length + 2 := by
  unfold quoteL
  split <;> simp
theorem valsK_len (r : PR) : ∀ k, (valsK r k).length ≤ 3 * vsize r.vs
  | 0 => by simp [valsK_zero]
  | k + 1 => by
    by_cases hk : k < r.vs.length
    · have hg : r.vs[k]? = some r.vs[k] := List.getElem?_eq_getElem hk
      -- as far as k, the weight is that of the first k
      have key : ∀ j, j ≤ r.vs.length → (valsK r j).length ≤ 3 * vsize (r.vs.take j) := by
        intro j
        induction j with
        | zero => intro _; simp [valsK_zero]
        | succ j ih =>
          intro hj
          have hgj : r.vs[j]? = some r.vs[j] := List.getElem?_eq_getElem (by omega)
          rw [valsK_step hgj]
          have := ih (by omega)
          have hq := quoteL_len r.vs[j].data.toList
          have hs : r.vs[j].data.toList.length = r.vs[j].size := Array.length_toList
          have e : vsize (r.vs.take (j + 1)) = vsize (r.vs.take j) + (r.vs[j].size + 1) := by
            unfold vsize
            rw [List.take_succ_eq_append_getElem (by omega), List.map_append, List.sum_append, List.map_cons, List.map_nil, List.sum_cons, List.sum_nil, Nat.add_zero]
          rw [e]
          simp only [List.length_append]
          split <;> simp <;> omega
      have h1 := key (k + 1) (by omega)
      have h2 : vsize (r.vs.take (k + 1)) ≤ vsize r.vs := by
        conv => rhs; rw [← List.take_append_drop (k + 1) r.vs]
        unfold vsize
        rw [List.map_append, List.sum_append]
        omega
      omega
    · have e : valsK r (k + 1) = valsK r k := by
        unfold valsK
        rw [List.take_of_length_le (by omega), List.take_of_length_le (by omega)]
      rw [e]
      exact valsK_len r k
theorem psize_le {l : List PR} {r : PR} (h : r ∈ l) : psize r ≤ psizes l := by
  induction l with
  | nil => cases h
  | cons x l ih =>
    unfold psizes at *
    rw [List.map_cons, List.sum_cons]
    rcases List.mem_cons.1 h with e | h
    · subst e; omega
    · have := ih h; omega
theorem preL_len (nm : ByteArray) : ∀ (l : List PR) (i : Nat), (preL nm l i).length ≤ nm.size + 5 * psizes l
  | l, 0 => by
    rw [preL_zero, ← bsize]; omega
  | [], i + 1 => by
    have : preL nm [] (i + 1) = nm.data.toList := by simp [preL]
    rw [this, ← bsize]; omega
  | r :: l, i + 1 => by
    have ih := preL_len nm l i
    have e : preL nm (r :: l) (i + 1) = nm.data.toList ++ (parT (parOf r) ++ ((l.take i).map parOf).flatMap parT) := by simp [preL]
    have ep : psizes (r :: l) = psize r + psizes l := by simp [psizes]
    have hv := valsK_len r r.vs.length
    rw [valsK_all (Nat.le_refl _)] at hv
    have hp : (parT (parOf r)).length ≤ 5 * psize r := by
      unfold parT psize
      have hs : (parOf r).name.length = r.name.size := Array.length_toList
      simp only [List.length_cons, List.length_append, hs]
      omega
    unfold preL at ih
    rw [e, ep]
    simp only [List.length_append] at ih ⊢
    omega
/-- Whether a byte stands in a text. -/
theorem idx_has (l : List UInt8) (c : UInt8) : (0 ≤ Lib.index l [c]) ↔ c ∈ l := by
  have hocc : ∀ j, Lib.occAt l [c] j = decide (l[j]? = some c) := by
    intro j
    unfold Lib.occAt
    by_cases hj : j < l.length
    · rw [List.drop_eq_getElem_cons hj, List.getElem?_eq_getElem hj]
      simp only [List.isPrefixOf, Bool.and_true, Option.some.injEq]
      by_cases e : c = l[j]
      · rw [decide_eq_true e.symm, beq_iff_eq]; exact e
      · rw [decide_eq_false (fun h => e h.symm), beq_eq_false_iff_ne]; exact e
    · rw [List.drop_eq_nil_of_le (by omega), List.getElem?_eq_none (by omega)]
      simp [List.isPrefixOf]
  constructor
  · intro h
    by_cases hc : c ∈ l
    · exact hc
    · have : Lib.index l [c] = -1 := Lib.index_none fun j hj => by
        rw [hocc j]
        refine decide_eq_false fun e => hc (List.mem_of_getElem? e)
      omega
  · intro h
    obtain ⟨j, hj, e⟩ := List.getElem_of_mem h
    have hfirst : ∀ n : Nat, (∃ j : Nat, j < n ∧ l[j]? = some c) → ∃ k : Nat, l[k]? = some c ∧ ∀ i : Nat, i < k → ¬ l[i]? = some c := by
      intro n
      induction n with
      | zero => rintro ⟨j, hj, _⟩; omega
      | succ n ih =>
        rintro ⟨j, hj, e⟩
        by_cases hx : ∃ j : Nat, j < n ∧ l[j]? = some c
        · exact ih hx
        · refine ⟨j, e, fun i hi e2 => hx ⟨i, by omega, e2⟩⟩
    obtain ⟨k, hk, hmin⟩ := hfirst (j + 1) ⟨j, by omega, by rw [List.getElem?_eq_getElem hj, e]⟩
    have hkl := (List.getElem?_eq_some_iff.1 hk).1
    have : Lib.index l [c] = k := Lib.index_first (Nat.le_of_lt hkl) (by rw [hocc]; exact decide_eq_true hk) (fun i hi => by rw [hocc]; exact decide_eq_false (hmin i hi))
    omega
theorem sep_44 {v : List UInt8} (h : (44 : UInt8) ∈ v) : hasSep v = true := by unfold hasSep; exact List.any_eq_true.2 ⟨44, h, by decide⟩
theorem sep_59 {v : List UInt8} (h : (59 : UInt8) ∈ v) : hasSep v = true := by unfold hasSep; exact List.any_eq_true.2 ⟨59, h, by decide⟩
theorem sep_58 {v : List UInt8} (h : (58 : UInt8) ∈ v) : hasSep v = true := by unfold hasSep; exact List.any_eq_true.2 ⟨58, h, by decide⟩
theorem sep_no {v : List UInt8} (h1 : (44 : UInt8) ∉ v) (h2 : (59 : UInt8) ∉ v) (h3 : (58 : UInt8) ∉ v) : hasSep v = false := by
  unfold hasSep
  rw [List.any_eq_false]
  intro c hc
  simp only [Bool.or_eq_true, decide_eq_true_eq, not_or]
  refine ⟨⟨fun e => h1 ?_, fun e => h2 ?_⟩, fun e => h3 ?_⟩
  · rwa [show c = 44 from UInt8.toNat_inj.1 e] at hc
  · rwa [show c = 59 from UInt8.toNat_inj.1 e] at hc
  · rwa [show c = 58 from UInt8.toNat_inj.1 e] at hc

end Go.Proofs.YtipmeooldopkmaaDoor

/-
  A text with small letters, as the program and as the document make it.
-/
namespace Go.Proofs.YtipmeooldopkmaaDoor
open Go.RowKit

/-- The first k with small letters. -/
def lowK (l : List UInt8) (k : Nat) : List UInt8 := lowL (l.take k) ++ l.drop k
theorem lowK_zero (l : List UInt8) : lowK l 0 = l := by simp [lowK, lowL]
theorem lowK_all {l : List UInt8} {k : Nat} (h : l.length ≤ k) : lowK l k = lowL l := by simp [lowK, List.take_of_length_le h, List.drop_eq_nil_of_le h]
theorem lowK_length (l : List UInt8) (k : Nat) : (lowK l k).length = l.length := by simp [lowK, lowL]; omega
theorem lowK_get {l : List UInt8} {k : Nat} : (lowK l k).getD k 0 = l.getD k 0 := by
  unfold lowK
  rw [List.getD_eq_getElem?_getD, List.getD_eq_getElem?_getD]
  by_cases hk : k < l.length
  · rw [List.getElem?_append_right (by simp [lowL]; omega)]
    simp [lowL, Nat.min_eq_left (Nat.le_of_lt hk)]
  · rw [List.getElem?_eq_none (by simp [lowL]; omega), List.getElem?_eq_none (by omega)]
theorem lowK_set {l : List UInt8} {k : Nat} (hk : k < l.length) : (lowK l k).set k (lowC (l.getD k 0)) = lowK l (k + 1) := by
  unfold lowK
  have e1 : (lowL (l.take k)).length = k := by simp [lowL]; omega
  rw [List.set_append_right k _ (by omega), e1, Nat.sub_self, List.drop_eq_getElem_cons hk, List.set_cons_zero, List.take_succ_eq_append_getElem hk, lowL_append]
  simp [lowL, List.getD_eq_getElem?_getD, hk]

end Go.Proofs.YtipmeooldopkmaaDoor

/-
  The document's reader of lines, its small steps: an error that is kept, what comes next.
-/
namespace Go.Proofs.YtipmeooldopkmaaDoor
open Go.RowKit

/-- The first error is kept. -/
def keepE (e k : Int) : Int := if e = 0 then k else e
theorem keepE_zero (k : Int) : keepE 0 k = k := rfl
theorem keepE_ne {e : Int} (h : e ≠ 0) (k : Int) : keepE e k = e := by unfold keepE; rw [if_neg h]
theorem eoE_end {s : ByteArray} {p : Nat} (h : s.size ≤ p) : eoE (s.data.toList.drop p) = 11 := by
  unfold eoE
  rw [if_pos (by rw [List.drop_eq_nil_iff, ← bsize]; exact h)]
theorem eoE_on {s : ByteArray} {p : Nat} (h : ¬ s.size ≤ p) : eoE (s.data.toList.drop p) = 10 := by
  unfold eoE
  rw [if_neg (by rw [List.drop_eq_nil_iff, ← bsize]; exact h)]
theorem head_drop {s : ByteArray} {p : Nat} (h : p < s.size) : (s.data.toList.drop p).head? = some s[p] := by
  have h' : p < s.data.size := h
  rw [List.head?_drop, Array.getElem?_toList, Array.getElem?_eq_getElem h']; rfl
theorem head_none {s : ByteArray} {p : Nat} (h : ¬ p < s.size) : (s.data.toList.drop p).head? = none := by
  rw [List.head?_drop, Array.getElem?_toList, Array.getElem?_eq_none (by have : s.data.size = s.size := rfl; omega)]

set_option maxHeartbeats 1000000 in
theorem refFail_any {g : Nat} {s : ByteArray} {p e : Int} (k : Int) (w : World) (h : R3 w g s p e) :
    Calls Tryd.prog 30 #[.pointer (some ⟨g, 0, none⟩), .int .i64 k] w fun e' w' => e' = .returned (.tuple #[]) ∧ ButL g w w' ∧ R3 w' g s p (keepE e k) := by
  obtain ⟨c0, c1, c2, cf⟩ := h.cells
  have H := Lib.hid h; clear h
  by_cases he : e = 0
  · subst he
    go_enter Tryd.func30, Tryd.ntmps30
    go_wp2
    go_end0
    exact ⟨rfl, ButL.set _ _ _ _, H.out.err_ k⟩
  · go_enter Tryd.func30, Tryd.ntmps30
    go_wp2
    go_end0
    exact ⟨rfl, ButL.refl _ _, by rw [keepE_ne he]; exact H.out⟩

set_option maxHeartbeats 1000000 in
theorem refNone_any {g p : Nat} {s : ByteArray} {e : Int} (w : World) (h : R3 w g s p e) :
    Calls Tryd.prog 31 #[.pointer (some ⟨g, 0, none⟩)] w fun e' w' => e' = .returned (.tuple #[]) ∧ ButL g w w' ∧ R3 w' g s p (keepE e (eoE (s.data.toList.drop p))) := by
  obtain ⟨c0, c1, c2, cf⟩ := h.cells
  have H := Lib.hid h; clear h
  by_cases hp : s.size ≤ p
  · have E := Lib.hid (eoE_end hp)
    go_enter Tryd.func31, Tryd.ntmps31
    go_wp2
    go_quiet (fail)
    have H2 : R3 (w.drewN nq) g s p e := H.out
    go_wp2_with (go_at_call 30; refine (refFail_any 11 _ H2).mono ?_; rintro e w1 ⟨rfl, hb, hr⟩)
    go_end0
    exact ⟨rfl, (ButL.of_below (below_drewNL (Below.refl _ w) nq) g).trans hb, by rw [E.out]; exact hr⟩
  · have E := Lib.hid (eoE_on hp)
    go_enter Tryd.func31, Tryd.ntmps31
    go_wp2
    go_quiet (fail)
    have H2 : R3 (w.drewN nq) g s p e := H.out
    go_wp2_with (go_at_call 30; refine (refFail_any 10 _ H2).mono ?_; rintro e w1 ⟨rfl, hb, hr⟩)
    go_end0
    exact ⟨rfl, (ButL.of_below (below_drewNL (Below.refl _ w) nq) g).trans hb, by rw [E.out]; exact hr⟩

/-- Whether a byte comes next, with no error. -/
def isV (s : ByteArray) (p : Nat) (e : Int) (c : UInt8) : Bool := decide (e = 0) && decide ((s.data.toList.drop p).head? = some c)
theorem isV_err {s : ByteArray} {p : Nat} {e : Int} (he : e ≠ 0) (c : UInt8) : isV s p e c = false := by unfold isV; simp [he]
theorem isV_end {s : ByteArray} {p : Nat} (hp : ¬ p < s.size) (e : Int) (c : UInt8) : isV s p e c = false := by unfold isV; rw [head_none hp]; simp
theorem isV_here {s : ByteArray} {p : Nat} (hp : p < s.size) (c : UInt8) : isV s p 0 c = decide (s[p] = c) := by
  unfold isV
  rw [head_drop hp]
  simp
theorem isV_iff {s : ByteArray} {p : Nat} {e : Int} {c : UInt8} : isV s p e c = true ↔ e = 0 ∧ (s.data.toList.drop p).head? = some c := by
  unfold isV
  simp
theorem isV_lt {s : ByteArray} {p : Nat} {e : Int} {c : UInt8} (h : isV s p e c = true) : e = 0 ∧ p < s.size := by
  have h2 := isV_iff.1 h
  refine ⟨h2.1, ?_⟩
  by_cases hp : p < s.size
  · exact hp
  · rw [head_none hp] at h2; cases h2.2

set_option maxHeartbeats 1000000 in
theorem refIs_any {g p : Nat} {s : ByteArray} {e : Int} (c : UInt8) (w : World) (h : R3 w g s p e) :
    Calls Tryd.prog 29 #[.pointer (some ⟨g, 0, none⟩), .int .u8 (c.toNat : Int)] w fun e' w' => e' = .returned (.bool (isV s p e c)) ∧ Below w.heap.size w w' := by
  obtain ⟨c0, c1, c2, cf⟩ := h.cells
  clear h
  by_cases he : e = 0
  · subst he
    by_cases hp : p < s.size
    · have hlt : decide ((p : Int) < (s.size : Int)) = true := decide_eq_true (by omega)
      by_cases hc : s[p] = c
      · have hn : s[p].toNat = c.toNat := by rw [hc]
        have E : Hid (isV s p 0 c = true) := Lib.hid (by rw [isV_here hp]; exact decide_eq_true hc)
        clear hc
        go_enter Tryd.func29, Tryd.ntmps29
        go_wp2
        go_quiet (fail)
        go_wp2
        go_ret
        exact ⟨by rw [E.out]; rfl, below_drewNL (Below.refl _ w) nq⟩
      · have hn : ((s[p].toNat : Int) == (c.toNat : Int)) = false := by
          rw [beq_eq_false_iff_ne]
          intro e
          exact hc (UInt8.toNat_inj.1 (by omega))
        have E : Hid (isV s p 0 c = false) := Lib.hid (by rw [isV_here hp]; exact decide_eq_false hc)
        clear hc
        go_enter Tryd.func29, Tryd.ntmps29
        go_wp2
        go_quiet (fail)
        go_wp2
        go_ret
        exact ⟨by rw [E.out]; rfl, below_drewNL (Below.refl _ w) nq⟩
    · have hlt : decide ((p : Int) < (s.size : Int)) = false := decide_eq_false (by omega)
      have E : Hid (isV s p 0 c = false) := Lib.hid (isV_end hp 0 c)
      go_enter Tryd.func29, Tryd.ntmps29
      go_wp2
      go_quiet (fail)
      go_wp2
      go_ret
      exact ⟨by rw [E.out]; rfl, below_drewNL (Below.refl _ w) nq⟩
  · have E : Hid (isV s p e c = false) := Lib.hid (isV_err he c)
    have hb : (e == 0) = false := by rw [beq_eq_false_iff_ne]; exact he
    go_enter Tryd.func29, Tryd.ntmps29
    go_wp2
    go_quiet (fail)
    go_wp2
    go_ret
    exact ⟨by rw [E.out]; rfl, below_drewNL (Below.refl _ w) nq⟩

end Go.Proofs.YtipmeooldopkmaaDoor
