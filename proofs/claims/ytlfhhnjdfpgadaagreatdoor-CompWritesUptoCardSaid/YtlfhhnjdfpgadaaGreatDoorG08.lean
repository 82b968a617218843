/-
  The document's own answers of layer 11: whether a property can be, and how it is written.
-/
import Derived.Test.YtlfhhnjdfpgadaaGreatDoorG07
import Derived.Test.YtlfhhnjdfpgadaaGreatDoorG06
import Derived.Test.YtlfhhnjdfpgadaaGreatDoorG05
namespace Go.Proofs.YtlfhhnjdfpgadaaGreatDoor
open Go.RowKit

def parB (x : Par) : Bool := nameB x.name && (decide (x.vals ≠ []) && x.vals.all fun v => plainB v false)
/-- Whether a property can be, told. -/
def fitB (p : Pro) : Bool := nameB p.name && (decide (p.pars.length ≤ 16) && (plainB p.value true && (p.pars.all parB && decide ((textL p).length ≤ 1024))))
theorem fitB_iff (p : Pro) : fitB p = true ↔ proOk p := by
  unfold fitB proOk
  have hp : ∀ x : Par, parB x = true ↔ parOk x := by
    intro x
    unfold parB parOk
    simp only [Bool.and_eq_true, nameB_iff, decide_eq_true_eq, List.all_eq_true, plainB_iff]
  simp only [Bool.and_eq_true, nameB_iff, decide_eq_true_eq, List.all_eq_true, valueB_iff, hp]
/-- The block g is a parameter's variable. -/
def X2 (w : World) (g : Nat) (r : PR) : Prop := w.heap[g]? = some (.cells #[.string r.name, .slice r.K r.k r.kc] 56 (0, 0))
def putX (w : World) (g : Nat) (r : PR) : World := (w.setCell ⟨g, 0, none⟩ (.string r.name)).setCell ⟨g, 1, none⟩ (.slice r.K r.k r.kc)
section
variable {w w' : World} {g : Nat} {r : PR}
theorem X2.lt (h : X2 w g r) : g < w.heap.size := by
  rcases Nat.lt_or_ge g w.heap.size with hlt | hge
  · exact hlt
  · unfold X2 at h; rw [Array.getElem?_eq_none hge] at h; cases h
theorem X2.cells (h : X2 w g r) : w.cell? ⟨g, 0, none⟩ = some (.string r.name) ∧ w.cell? ⟨g, 1, none⟩ = some (.slice r.K r.k r.kc) := by
  unfold X2 at h
  exact ⟨by simp [World.cell?, h], by simp [World.cell?, h]⟩
theorem X2.step (h : X2 w g r) (hb : Below w.heap.size w w') : X2 w' g r := (hb.block g h.lt).trans h
theorem set_blk {v : World} {g : Nat} {A : Array Value} {T : TypeId} {fz : Nat × Nat} (h : v.heap[g]? = some (.cells A T fz)) (i : Nat) (u : Value) : (v.setCell ⟨g, i, none⟩ u).heap[g]? = some (.cells (A.setIfInBounds i u) T fz) := by
  simp [World.setCell, Array.getElem?_modify, h]
theorem X2.new (w : World) (r : PR) : X2 (w.alloc (.cells #[.string r.name, .slice r.K r.k r.kc] 56)) w.heap.size r := heap_alloc_new w _
theorem putX_below (w : World) (r : PR) (o : Obj) : Below w.heap.size w (putX (w.alloc o) w.heap.size r) :=
  (((Below.refl _ w).alloc (Nat.le_refl _) o).setCell (Nat.le_refl _) _).setCell (Nat.le_refl _) _
end
theorem alls_drop {α : Type} {f : α → Bool} {l : List α} {i : Nat} {x : α} (h : l[i]? = some x) : (l.drop i).all f = (f x && (l.drop (i + 1)).all f) := by
  obtain ⟨hi, e⟩ := List.getElem?_eq_some_iff.1 h
  rw [List.drop_eq_getElem_cons hi, List.all_cons, e]

set_option maxRecDepth 100000 in
set_option maxHeartbeats 8000000 in
theorem refFit11_any (nm vl : ByteArray) (L : Option Addr) (n c : Nat) (l : List PR) (w : World) (hR : Reads w w.heap.size 2 L n (encP l)) (hP : ∀ r ∈ l, POk w w.heap.size r) (hn : n ≤ c) (hc : c ≤ maxLen) (hsz : nm.size + psizes l + vl.size ≤ 1048576) :
    Calls Tryz.prog 41 #[.agg #[.string nm, .slice L n c, .string vl]] w fun e w' => e = .returned (.bool (fitB (proOf nm l vl))) ∧ Below w.heap.size w w' := by
  have HA := Lib.hid (PA.new hR hP hn hc nm vl)
  have HB : Hid (Below w.heap.size w (w.alloc (.cells #[.string nm, .slice L n c, .string vl] 30))) := Lib.hid ((Below.refl _ w).alloc (Nat.le_refl _) _)
  have hnm : n ≤ 9223372036854775807 := by have := hc; unfold maxLen at this; omega
  have HSZ := Lib.hid hsz
  have HPS : Hid (∀ r, r ∈ l → r.name.size ≤ 1048576 ∧ ∀ v ∈ r.vs, v.size ≤ 1048576) := Lib.hid fun r hr => by
    have h1 := psize_le hr
    unfold psize at h1
    refine ⟨by omega, fun v hv => ?_⟩
    have : v.size + 1 ≤ vsize r.vs := vsize_le hv
    omega
  have c1 := fun W => refNameOf_any nm (by omega) W
  have c2 := fun W => refPlain_any vl (by omega) true W
  have HN := Lib.hid (And.intro hn hc)
  have HL := Lib.hid HA.out.len
  have E0 := Lib.hid (show fitB (proOf nm l vl) = (nameB nm.data.toList && (decide (n ≤ 16) && (plainB vl.data.toList true && ((l.map parOf).all parB && decide ((textL (proOf nm l vl)).length ≤ 1024))))) by
    unfold fitB
    rw [show (proOf nm l vl).pars.length = n by unfold proOf; rw [List.length_map]; exact HL.out]
    rfl)
  clear hR hP hn hc hsz
  go_enter Tryz.func41, Tryz.ntmps41
  generalize hW : w.alloc (.cells #[.string nm, .slice L n c, .string vl] 30) = w1 at HA HB
  obtain ⟨x0, x1, x2⟩ := HA.out.bx.cells
  generalize nameB nm.data.toList = b1 at *
  generalize plainB vl.data.toList true = b2 at *
  go_wp2_with fail
  refine (c1 _).mono ?_
  rintro e w2 ⟨rfl, hb2⟩
  have HA2 := Lib.hid (HA.out.step hb2)
  have HB2 := Lib.hid (bstep HB.out hb2)
  clear hW HA HB hb2 x0 x1 x2
  obtain ⟨x0, x1, x2⟩ := HA2.out.bx.cells
  cases b1
  · have E : Hid (fitB (proOf nm l vl) = false) := Lib.hid (by rw [E0.out]; rfl)
    go_wp2
    go_ret
    exact ⟨by rw [E.out]; rfl, HB2.out⟩
  rw [Bool.true_and] at E0
  by_cases h16 : n ≤ 16
  · rw [decide_eq_true h16, Bool.true_and] at E0
    have g16 : decide ((16 : Int) < (n : Int)) = false := decide_eq_false (by omega)
    cases b2
    · have E : Hid (fitB (proOf nm l vl) = false) := Lib.hid (by rw [E0.out]; rfl)
      go_wp2_with (go_at_call 63; ((with_reducible refine (c2 _).mono ?_); rintro e w' ⟨rfl, hw⟩; subst w'))
      go_ret
      exact ⟨by rw [E.out]; rfl, HB2.out⟩
    rw [Bool.true_and] at E0
    go_wp2_with (go_at_call 63; ((with_reducible refine (c2 _).mono ?_); rintro e w' ⟨rfl, hw⟩; subst w'))
    clear x0 x1 x2 c1 c2
    go_loopw [3, 4, 5] (fun s3 s4 s5 wr => ∃ i : Nat, s3 = .int .i64 i ∧ i ≤ n ∧ Hid (PA wr w.heap.size nm vl L n c l ∧ Below w.heap.size w wr) ∧ Hid ((l.map parOf).all parB = ((l.map parOf).drop i).all parB)) (fun s3 _ _ _ => n - (intOf s3).toNat)
    case atStart => exact ⟨0, rfl, Nat.zero_le _, Lib.hid ⟨HA2.out, HB2.out⟩, Lib.hid rfl⟩
    case round =>
      clear HA2 HB2
      obtain ⟨i, rfl, hi, HJ, HV⟩ := hrel
      obtain ⟨x0, x1, x2⟩ := HJ.out.1.bx.cells
      by_cases hlt : i < n
      · obtain ⟨r, hr⟩ : ∃ r, l[i]? = some r := ⟨l[i]'(by have := HL.out; omega), List.getElem?_eq_getElem (by have := HL.out; omega)⟩
        obtain ⟨b, o, hLe, q0, q1⟩ := HJ.out.1.at hr
        have hmem := List.mem_of_getElem? hr
        have HST := Lib.hid (alls_drop (f := parB) (l := l.map parOf) (i := i) (x := parOf r) (by rw [List.getElem?_map, hr]; rfl))
        obtain ⟨hrn, hvv⟩ := HPS.out r hmem
        have HVV := Lib.hid hvv
        have cn := fun W => refNameOf_any r.name (by omega) W
        have HPB := Lib.hid (show parB (parOf r) = (nameB r.name.data.toList && (decide (r.vs.map (fun v => v.data.toList) ≠ []) && (r.vs.map (fun v => v.data.toList)).all fun v => plainB v false)) from rfl)
        have HX := Lib.hid (X2.new wr r)
        have HXB := Lib.hid ((Below.refl _ wr).alloc (Nat.le_refl _) (.cells #[.string r.name, .slice r.K r.k r.kc] 56))
        have HLM : Hid (r ∈ l) := Lib.hid hmem
        clear hr hmem hvv
        have HLE := Lib.hid hLe
        rw [hLe] at x1
        clear hLe
        generalize nameB r.name.data.toList = bn at *
        go_wp2_with fail
        refine (cn _).mono ?_
        rintro e w3 ⟨rfl, hb3⟩
        have HX3 := Lib.hid (HX.out.step hb3)
        have hbx := bstep HXB.out hb3
        have HJ3 := Lib.hid (And.intro (HJ.out.1.step hbx) (bstep HJ.out.2 hbx))
        have HPO := Lib.hid (HJ3.out.1.vs r HLM.out)
        have HKL := Lib.hid HPO.out.len
        have hkm : r.k ≤ 9223372036854775807 := by have := HPO.out.le; have := HPO.out.cap; unfold maxLen at this; omega
        clear HX HXB HJ hb3 hbx x0 x1 x2 q0 q1 cn
        obtain ⟨z0, z1⟩ := HX3.out.cells
        cases bn
        · have E : Hid (fitB (proOf nm l vl) = false) := Lib.hid (by rw [E0.out, HV.out, HST.out, HPB.out]; rfl)
          go_wp2
          go_ret
          exact ⟨by rw [E.out]; rfl, HJ3.out.2⟩
        by_cases hk0 : r.k = 0
        · have hv : r.vs = [] := List.eq_nil_of_length_eq_zero (by rw [HKL.out]; exact hk0)
          have E : Hid (fitB (proOf nm l vl) = false) := Lib.hid (by rw [E0.out, HV.out, HST.out, HPB.out, hv]; rfl)
          have k0 : ((r.k : Int) == 0) = true := by rw [beq_iff_eq]; omega
          clear hv hk0
          go_wp2
          go_ret
          exact ⟨by rw [E.out]; rfl, HJ3.out.2⟩
        have hvne : r.vs.map (fun v => v.data.toList) ≠ [] := fun e => by
          have := congrArg List.length e
          rw [List.length_map, HKL.out, List.length_nil] at this
          exact hk0 this
        rw [Bool.true_and, decide_eq_true hvne, Bool.true_and] at HPB
        have k0 : ((r.k : Int) == 0) = false := by rw [beq_eq_false_iff_ne]; omega
        clear hvne
        go_wp2
        clear z0 z1
        go_loopw [5] (fun s5 wr2 => ∃ k : Nat, s5 = .int .i64 k ∧ k ≤ r.k ∧ wr2 = w3 ∧ Hid (((r.vs.map (fun v => v.data.toList)).all fun v => plainB v false) = (((r.vs.map (fun v => v.data.toList)).drop k).all fun v => plainB v false))) (fun s5 _ => r.k - (intOf s5).toNat)
        case atStart => exact ⟨0, rfl, Nat.zero_le _, rfl, Lib.hid rfl⟩
        case round =>
          obtain ⟨k, rfl, hk, rfl, HU⟩ := hrel
          obtain ⟨z0, z1⟩ := HX3.out.cells
          by_cases hlt2 : k < r.k
          · obtain ⟨v, hv⟩ : ∃ v, r.vs[k]? = some v := ⟨r.vs[k]'(by have := HKL.out; omega), List.getElem?_eq_getElem (by have := HKL.out; omega)⟩
            obtain ⟨b2, o2, hKe, q2⟩ := HPO.out.at hv
            have hvs := HVV.out v (List.mem_of_getElem? hv)
            have cp := fun W => refPlain_any v (by omega) false W
            have HUS := Lib.hid (alls_drop (f := fun v => plainB v false) (l := r.vs.map fun v => v.data.toList) (i := k) (x := v.data.toList) (by rw [List.getElem?_map, hv]; rfl))
            rw [hKe] at z1
            clear hv hKe
            generalize plainB v.data.toList false = bp at *
            cases bp
            · have E : Hid (fitB (proOf nm l vl) = false) := Lib.hid (by rw [E0.out, HV.out, HST.out, HPB.out, HU.out, HUS.out]; rfl)
              go_wp2_with (go_at_call 63; ((with_reducible refine (cp _).mono ?_); rintro e w' ⟨rfl, hw⟩; subst w'))
              go_ret
              exact ⟨by rw [E.out]; rfl, HJ3.out.2⟩
            · have HU2 := Lib.hid (HU.out.trans HUS.out)
              rw [Bool.true_and] at HU2
              go_wp2_with (go_at_call 63; ((with_reducible refine (cp _).mono ?_); rintro e w' ⟨rfl, hw⟩; subst w'))
              go_round
              case rel => exact ⟨k + 1, by go_num, by omega, by first | rfl | trivial, HU2⟩
              case measure => simp [intOf]; omega
          · obtain rfl : k = r.k := by omega
            have HV2 : Hid ((l.map parOf).all parB = ((l.map parOf).drop (i + 1)).all parB) := Lib.hid (by
              rw [HV.out, HST.out, HPB.out, HU.out, List.drop_eq_nil_of_le (by rw [List.length_map, HKL.out]; exact Nat.le_refl _)]; rfl)
            go_wp2
            go_round
            case rel => exact ⟨i + 1, by go_num, by omega, HJ3, HV2⟩
            case measure => simp [intOf]; omega
      · obtain rfl : i = n := by omega
        have hall : (l.map parOf).all parB = true := by rw [HV.out, List.drop_eq_nil_of_le (by rw [List.length_map, HL.out]; exact Nat.le_refl _)]; rfl
        rw [hall, Bool.true_and] at E0
        clear hall
        have ct := refText11_any nm vl L i c l wr HJ.out.1.rd HJ.out.1.vs HJ.out.1.le HJ.out.1.cap HSZ.out
        have hts : (⟨(textL (proOf nm l vl)).toArray⟩ : ByteArray).size = (textL (proOf nm l vl)).length := mk_sizeL _
        generalize (⟨(textL (proOf nm l vl)).toArray⟩ : ByteArray) = T at *
        have HTS := Lib.hid hts
        clear hts
        go_wp2_with fail
        refine ct.mono ?_
        rintro e w4 ⟨rfl, hb4⟩
        by_cases h1024 : T.size ≤ 1024
        · have E : Hid (fitB (proOf nm l vl) = true) := Lib.hid (by rw [E0.out, ← HTS.out]; exact decide_eq_true h1024)
          go_wp2
          go_ret
          exact ⟨by rw [E.out]; first | rfl | (simp; done) | (simp; omega), bstep HJ.out.2 hb4⟩
        · have E : Hid (fitB (proOf nm l vl) = false) := Lib.hid (by rw [E0.out, ← HTS.out]; exact decide_eq_false h1024)
          have hi2 : decide ((T.size : Int) ≤ 1024) = false := decide_eq_false (by omega)
          go_wp2
          go_ret
          exact ⟨by rw [E.out]; first | rfl | (simp; done) | (simp; omega), bstep HJ.out.2 hb4⟩
  · have E : Hid (fitB (proOf nm l vl) = false) := Lib.hid (by rw [E0.out, decide_eq_false h16]; rfl)
    have g16 : decide ((16 : Int) < (n : Int)) = true := decide_eq_true (by omega)
    go_wp2
    go_ret
    exact ⟨by rw [E.out]; rfl, HB2.out⟩

/-- What Print tells. -/
def prnL (p : Pro) : List UInt8 := if fitB p = true then textL p else []

set_option maxRecDepth 100000 in
set_option maxHeartbeats 4000000 in
theorem refPrint11_any (nm vl : ByteArray) (L : Option Addr) (n c : Nat) (l : List PR) (w : World) (hR : Reads w w.heap.size 2 L n (encP l)) (hP : ∀ r ∈ l, POk w w.heap.size r) (hn : n ≤ c) (hc : c ≤ maxLen) (hsz : nm.size + psizes l + vl.size ≤ 1048576) :
    Calls Tryz.prog 42 #[.agg #[.string nm, .slice L n c, .string vl]] w fun e w' => e = .returned (.string ⟨(prnL (proOf nm l vl)).toArray⟩) ∧ Below w.heap.size w w' := by
  have HA := Lib.hid (PA.new hR hP hn hc nm vl)
  have HB : Hid (Below w.heap.size w (w.alloc (.cells #[.string nm, .slice L n c, .string vl] 30))) := Lib.hid ((Below.refl _ w).alloc (Nat.le_refl _) _)
  have HSZ := Lib.hid hsz
  clear hR hP hn hc hsz
  go_enter Tryz.func42, Tryz.ntmps42
  generalize hW : w.alloc (.cells #[.string nm, .slice L n c, .string vl] 30) = w1 at HA HB
  obtain ⟨x0, x1, x2⟩ := HA.out.bx.cells
  have cf := refFit11_any nm vl L n c l w1 HA.out.rd HA.out.vs HA.out.le HA.out.cap HSZ.out
  go_wp2_with fail
  refine cf.mono ?_
  rintro e w2 ⟨rfl, hb2⟩
  have HA2 := Lib.hid (HA.out.step hb2)
  have HB2 := Lib.hid (bstep HB.out hb2)
  clear hW HA HB hb2 x0 x1 x2 cf
  obtain ⟨x0, x1, x2⟩ := HA2.out.bx.cells
  cases hf : fitB (proOf nm l vl)
  · have E : Hid (prnL (proOf nm l vl) = []) := Lib.hid (by unfold prnL; rw [hf]; rfl)
    clear hf
    go_wp2
    go_ret
    exact ⟨by rw [E.out]; rfl, HB2.out⟩
  · have E : Hid (prnL (proOf nm l vl) = textL (proOf nm l vl)) := Lib.hid (by unfold prnL; rw [hf]; rfl)
    have ct := refText11_any nm vl L n c l w2 HA2.out.rd HA2.out.vs HA2.out.le HA2.out.cap HSZ.out
    rw [← E.out] at ct
    clear hf
    obtain ⟨T, hT⟩ : ∃ T : ByteArray, (⟨(prnL (proOf nm l vl)).toArray⟩ : ByteArray) = T := ⟨_, rfl⟩
    rw [hT] at ct
    have HT := Lib.hid hT
    clear hT
    go_wp2_with fail
    refine ct.mono ?_
    rintro e w3 ⟨rfl, hb3⟩
    go_wp2
    go_ret
    exact ⟨by rw [HT.out]; rfl, bstep HB2.out hb3⟩

end Go.Proofs.YtlfhhnjdfpgadaaGreatDoor

/-
  Which components can be.
-/
namespace Go.Proofs.YtlfhhnjdfpgadaaGreatDoor
open Go.RowKit

def beginT : List UInt8 := [66, 69, 71, 73, 78]
def endT : List UInt8 := [69, 78, 68]
def propB (p : Pro) : Bool := fitB p && (!decide (p.name = beginT) && !decide (p.name = endT))
def fitC : Nat → CM → Bool
  | 0, _ => false
  | d + 1, .mk nm ps cs => nameB nm && (ps.all propB && cs.all (fitC d))
theorem qsize_mem {q : QR} : ∀ {qs : List QR}, q ∈ qs → qsize q ≤ qsizes qs
  | [], h => by cases h
  | y :: qs, h => by
    have e : qsizes (y :: qs) = qsize y + qsizes qs := by simp [qsizes]
    rw [e]
    rcases List.mem_cons.1 h with e | e
    · subst e; omega
    · have := qsize_mem e; omega

set_option maxRecDepth 100000 in
set_option maxHeartbeats 4000000 in
theorem fit12_any : ∀ (d : Nat) (r : CR) (w : World), d ≤ 12 → csize r ≤ 1048576 → COk w w.heap.size r →
    Calls Tryz.prog 23 #[.agg #[(fC r).1, (fC r).2.1, (fC r).2.2], .int .i64 d] w fun e w' => e = .returned (.bool (fitC d (compOf r))) ∧ Below w.heap.size w w'
  | 0, .mk nm A n c qs K k kc cs, w, _, hN, hC => by
    have HB : Hid (Below w.heap.size w (w.alloc (.cells #[.string nm, .slice A n c, .slice K k kc] 25))) := Lib.hid ((Below.refl _ w).alloc (Nat.le_refl _) _)
    clear hC hN
    show Calls Tryz.prog 23 #[.agg #[.string nm, .slice A n c, .slice K k kc], .int .i64 0] w _
    go_enter Tryz.func23, Tryz.ntmps23
    go_wp2
    go_ret
    exact ⟨by rw [fitC]; rfl, HB.out⟩
  | d + 1, .mk nm A n c qs K k kc cs, w, hd, hN, hC => by
    have HA := Lib.hid (CA.new hC)
    have HB : Hid (Below w.heap.size w (w.alloc (.cells #[.string nm, .slice A n c, .slice K k kc] 25))) := Lib.hid ((Below.refl _ w).alloc (Nat.le_refl _) _)
    have HN : Hid (csizes cs ≤ 1048576 ∧ qsizes qs ≤ 1048576 ∧ nm.size ≤ 1048576) := Lib.hid (by rw [csize] at hN; omega)
    have IH := Lib.hid (fit12_any d)
    have hn : n ≤ 9223372036854775807 := by have := hC.nle; unfold maxLen at this; omega
    have hk : k ≤ 9223372036854775807 := by have := hC.kle; unfold maxLen at this; omega
    have HLQ := Lib.hid hC.rq.len3
    have HLC := Lib.hid hC.rc.len3
    have HD := Lib.hid hd
    clear hC hN
    rw [compOf_mk]
    have E0 := Lib.hid (show fitC (d + 1) (.mk nm.data.toList (qs.map proQ) (cs.map compOf)) = (nameB nm.data.toList && ((qs.map proQ).all propB && (cs.map compOf).all (fitC d))) by rw [fitC])
    generalize fitC (d + 1) (.mk nm.data.toList (qs.map proQ) (cs.map compOf)) = rb at E0
    obtain ⟨Z, hZ⟩ : ∃ Z : Int, ((d + 1 : Nat) : Int) = Z := ⟨_, rfl⟩
    have z0 : (Z == 0) = false := by rw [beq_eq_false_iff_ne]; omega
    have z1 : Z - 1 = (d : Int) := by omega
    have z2 : Z ≤ 12 := by omega
    have z3 : 1 ≤ Z := by omega
    have cn := refNameOf_any nm (by have := HN.out; omega) (w.alloc (.cells #[.string nm, .slice A n c, .slice K k kc] 25))
    rw [hZ]
    clear hZ hd
    show Calls Tryz.prog 23 #[.agg #[.string nm, .slice A n c, .slice K k kc], .int .i64 Z] w _
    go_enter Tryz.func23, Tryz.ntmps23
    obtain ⟨p0, p1, p2⟩ := HA.out.bx.cells
    generalize hW : w.alloc (.cells #[.string nm, .slice A n c, .slice K k kc] 25) = w1 at *
    generalize nameB nm.data.toList = b1 at *
    go_wp2_with fail
    refine cn.mono ?_
    rintro e w2 ⟨rfl, hb2⟩
    have HJ := Lib.hid (And.intro (HA.out.step hb2) (bstep HB.out hb2))
    clear cn hb2 HA HB hW p0 p1 p2
    obtain ⟨p0, p1, p2⟩ := HJ.out.1.bx.cells
    cases b1
    · have E : Hid (rb = false) := Lib.hid (by rw [E0.out]; rfl)
      go_wp2
      go_ret
      exact ⟨by rw [E.out]; rfl, HJ.out.2⟩
    rw [Bool.true_and] at E0
    go_wp2
    clear p0 p1 p2
    go_loopw [5, 6] (fun s5 s6 wr => ∃ i : Nat, s5 = .int .i64 i ∧ i ≤ n ∧ Hid (CA wr w.heap.size nm A n c qs K k kc cs ∧ Below w.heap.size w wr) ∧ Hid ((qs.map proQ).all propB = ((qs.map proQ).drop i).all propB)) (fun s5 _ _ => n - (intOf s5).toNat)
    case atStart => exact ⟨0, rfl, Nat.zero_le _, HJ, Lib.hid rfl⟩
    case round =>
      clear HJ
      obtain ⟨i, rfl, hi, HJ, HV⟩ := hrel
      obtain ⟨p0, p1, p2⟩ := HJ.out.1.bx.cells
      by_cases hlt : i < n
      · obtain ⟨q, hq⟩ : ∃ q, qs[i]? = some q := ⟨qs[i]'(by have := HLQ.out; omega), List.getElem?_eq_getElem (by have := HLQ.out; omega)⟩
        obtain ⟨b, o, hAe, q0, q1, q2⟩ := HJ.out.1.atQ hq
        have hmem := List.mem_of_getElem? hq
        have HST := Lib.hid (alls_drop (f := propB) (l := qs.map proQ) (i := i) (x := proQ q) (by rw [List.getElem?_map, hq]; rfl))
        have hsz : q.name.size + psizes q.ps + q.vl.size ≤ 1048576 := by
          have h1 := qsize_mem hmem
          have h2 := HN.out.2.1
          unfold qsize at h1
          omega
        have hok := HJ.out.1.ok.vq q hmem
        have HP := Lib.hid (PA.new hok.rd hok.vs hok.le hok.cap q.name q.vl)
        have HPB := Lib.hid ((Below.refl _ wr).alloc (Nat.le_refl _) (.cells #[.string q.name, .slice q.L q.n q.c, .string q.vl] 30))
        have cf := refFit11_any q.name q.vl q.L q.n q.c q.ps _ HP.out.rd HP.out.vs HP.out.le HP.out.cap hsz
        have HPR := Lib.hid (show propB (proQ q) = (fitB (proOf q.name q.ps q.vl) && (!decide (q.name.data.toList = beginT) && !decide (q.name.data.toList = endT))) from rfl)
        have g1 := strEqL q.name ⟨#[66, 69, 71, 73, 78]⟩
        have g2 := strEqL q.name ⟨#[69, 78, 68]⟩
        have l1 : (⟨#[66, 69, 71, 73, 78]⟩ : ByteArray).data.toList = beginT := rfl
        have l2 : (⟨#[69, 78, 68]⟩ : ByteArray).data.toList = endT := rfl
        rw [l1] at g1
        rw [l2] at g2
        have t1 : (⟨#[66, 69, 71, 73, 78]⟩ : ByteArray).toList = [66, 69, 71, 73, 78] := by simp
        have t2 : (⟨#[69, 78, 68]⟩ : ByteArray).toList = [69, 78, 68] := by simp
        rw [t1] at g1
        rw [t2] at g2
        generalize decide (q.name.data.toList = beginT) = d1 at *
        generalize decide (q.name.data.toList = endT) = d2 at *
        generalize fitB (proOf q.name q.ps q.vl) = bf at *
        clear hq hmem hsz hok l1 l2 t1 t2
        rw [hAe] at p1
        clear hAe
        go_wp2_with fail
        refine cf.mono ?_
        rintro e w3 ⟨rfl, hb3⟩
        have hbx := bstep HPB.out hb3
        have HJ3 := Lib.hid (And.intro (HJ.out.1.step hbx) (bstep HJ.out.2 hbx))
        have HP3 := Lib.hid (HP.out.bx.step hb3)
        clear HP HPB HJ hb3 hbx p0 p1 p2 q0 q1 q2 cf
        obtain ⟨y0, y1, y2⟩ := HP3.out.cells
        cases bf
        · have E : Hid (rb = false) := Lib.hid (by rw [E0.out, HV.out, HST.out, HPR.out]; rfl)
          go_wp2
          go_ret
          exact ⟨by rw [E.out]; rfl, HJ3.out.2⟩
        cases d1
        · cases d2
          · have HV2 : Hid ((qs.map proQ).all propB = ((qs.map proQ).drop (i + 1)).all propB) := Lib.hid (by rw [HV.out, HST.out, HPR.out]; rfl)
            go_wp2
            go_round
            case rel => exact ⟨i + 1, by go_num, by omega, HJ3, HV2⟩
            case measure => simp [intOf]; omega
          · have E : Hid (rb = false) := Lib.hid (by rw [E0.out, HV.out, HST.out, HPR.out]; rfl)
            go_wp2
            go_ret
            exact ⟨by rw [E.out]; rfl, HJ3.out.2⟩
        · have E : Hid (rb = false) := Lib.hid (by rw [E0.out, HV.out, HST.out, HPR.out]; rfl)
          go_wp2
          go_ret
          exact ⟨by rw [E.out]; rfl, HJ3.out.2⟩
      · obtain rfl : i = n := by omega
        have hall : (qs.map proQ).all propB = true := by rw [HV.out, List.drop_eq_nil_of_le (by rw [List.length_map, HLQ.out]; exact Nat.le_refl _)]; rfl
        rw [hall, Bool.true_and] at E0
        clear hall HV
        go_wp2
        clear p0 p1 p2
        go_loopw [7] (fun s7 wr2 => ∃ j : Nat, s7 = .int .i64 j ∧ j ≤ k ∧ Hid (CA wr2 w.heap.size nm A i c qs K k kc cs ∧ Below w.heap.size w wr2) ∧ Hid ((cs.map compOf).all (fitC d) = ((cs.map compOf).drop j).all (fitC d))) (fun s7 _ => k - (intOf s7).toNat)
        case atStart => exact ⟨0, rfl, Nat.zero_le _, HJ, Lib.hid rfl⟩
        case round =>
          clear HJ
          obtain ⟨j, rfl, hj, HJ, HV⟩ := hrel
          obtain ⟨p0, p1, p2⟩ := HJ.out.1.bx.cells
          by_cases hjl : j < k
          · obtain ⟨x, hx⟩ : ∃ x, cs[j]? = some x := ⟨cs[j]'(by have := HLC.out; omega), List.getElem?_eq_getElem (by have := HLC.out; omega)⟩
            obtain ⟨b, o, hKe, q0, q1, q2⟩ := HJ.out.1.atC hx
            have hmem := List.mem_of_getElem? hx
            have HST := Lib.hid (alls_drop (f := fitC d) (l := cs.map compOf) (i := j) (x := compOf x) (by rw [List.getElem?_map, hx]; rfl))
            have cf := IH.out x _ (by have := HD.out; omega) (Nat.le_trans (csize_mem hmem) HN.out.1) (HJ.out.1.ok.vc x hmem)
            generalize fitC d (compOf x) = bf at *
            clear hx hmem
            rw [hKe] at p2
            clear hKe
            go_wp2_with fail
            refine cf.mono ?_
            rintro e w3 ⟨rfl, hb3⟩
            have HJ3 := Lib.hid (And.intro (HJ.out.1.step hb3) (bstep HJ.out.2 hb3))
            clear hb3 cf HJ p0 p1 p2 q0 q1 q2
            cases bf
            · have E : Hid (rb = false) := Lib.hid (by rw [E0.out, HV.out, HST.out]; rfl)
              go_wp2
              go_ret
              exact ⟨by rw [E.out]; rfl, HJ3.out.2⟩
            · have HV2 : Hid ((cs.map compOf).all (fitC d) = ((cs.map compOf).drop (j + 1)).all (fitC d)) := Lib.hid (by rw [HV.out, HST.out]; rfl)
              go_wp2
              go_round
              case rel => exact ⟨j + 1, by go_num, by omega, HJ3, HV2⟩
              case measure => simp [intOf]; omega
          · obtain rfl : j = k := by omega
            have E : Hid (rb = true) := Lib.hid (by rw [E0.out, HV.out, List.drop_eq_nil_of_le (by rw [List.length_map, HLC.out]; exact Nat.le_refl _)]; rfl)
            go_wp2
            go_ret
            exact ⟨by rw [E.out]; rfl, HJ.out.2⟩

end Go.Proofs.YtlfhhnjdfpgadaaGreatDoor

/-
  The document's reader of lines: a parameter's value.
-/
namespace Go.Proofs.YtlfhhnjdfpgadaaGreatDoor
open Go.RowKit

def vf (b : Bool) (c : UInt8) : Bool := if b = true then qvC c else uvC c
/-- The bytes of a value at a place, how many. -/
def vlen (s : ByteArray) (p : Nat) (b : Bool) : Nat := ((s.data.toList.drop p).takeWhile (vf b)).length
theorem vlen_le (s : ByteArray) (p : Nat) (b : Bool) : vlen s p b ≤ s.size - p := by
  have := takeWhile_len (p := vf b) (s.data.toList.drop p)
  rw [List.length_drop, ← bsize] at this
  exact this
theorem vlen_in {s : ByteArray} {p k : Nat} {b : Bool} (hpk : p ≤ k) (h : k < s.size) : (k - p < vlen s p b → vf b s[k] = true) ∧ (k - p = vlen s p b → vf b s[k] = false) := by
  have := tw_get (f := vf b) (drop_get (s := s) (p := p) (i := k - p) (by omega))
  have e : s[p + (k - p)]'(by omega) = s[k] := by congr 1; omega
  rw [e] at this
  exact this
theorem vlen_end {s : ByteArray} {p k : Nat} {b : Bool} (hpk : p ≤ k) (hk : k ≤ p + vlen s p b) (h : k < s.size) (hf : vf b s[k] = false) : k = p + vlen s p b := by
  by_cases hh : k - p < vlen s p b
  · rw [(vlen_in hpk h).1 hh] at hf; cases hf
  · omega
theorem vlen_on {s : ByteArray} {p k : Nat} {b : Bool} (hpk : p ≤ k) (hk : k ≤ p + vlen s p b) (h : k < s.size) (hf : vf b s[k] = true) : k + 1 ≤ p + vlen s p b := by
  by_cases hh : k - p = vlen s p b
  · rw [(vlen_in hpk h).2 hh] at hf; cases hf
  · omega
theorem vlen_cut {s : ByteArray} {p k : Nat} {b : Bool} (hk : k = p + vlen s p b) : (s.extract p k).data.toList = (s.data.toList.drop p).takeWhile (vf b) := by
  rw [cut_take, hk, Nat.add_sub_cancel_left]
  unfold vlen
  rw [tw_take]
/-- What a value's reading leaves. -/
def ValSays (s : ByteArray) (p : Nat) (v : ByteArray) (q : Nat) (e2 : Int) : Prop :=
  match rdVal (s.data.toList.drop p) with | .ok a r => e2 = 0 ∧ v = ⟨a.toArray⟩ ∧ s.data.toList.drop q = r ∧ q ≤ s.size | .bad k => e2 = k
theorem of_list {v : ByteArray} {a : List UInt8} (h : v.data.toList = a) : v = ⟨a.toArray⟩ := by subst h; simp
theorem val_plain {s : ByteArray} {p k : Nat} (hq : (s.data.toList.drop p).head? ≠ some 34) (hk : k = p + vlen s p false) (hks : k ≤ s.size) : ValSays s p (s.extract p k) k 0 := by
  have e : rdVal (s.data.toList.drop p) = .ok ((s.data.toList.drop p).takeWhile (vf false)) ((s.data.toList.drop p).drop (vlen s p false)) := by
    unfold rdVal
    rw [if_neg hq]; rfl
  unfold ValSays
  rw [e]
  exact ⟨rfl, of_list (vlen_cut hk), by rw [List.drop_drop, hk], hks⟩
theorem val_quoted {s : ByteArray} {p k : Nat} (hq : (s.data.toList.drop p).head? = some 34) (hk : k = p + 1 + vlen s (p + 1) true) (hks : k < s.size) (h34 : (s.data.toList.drop k).head? = some 34) : ValSays s p (s.extract (p + 1) k) (k + 1) 0 := by
  have e2 : (s.data.toList.drop (p + 1)).drop (vlen s (p + 1) true) = s.data.toList.drop k := by rw [List.drop_drop, hk]
  have e : rdVal (s.data.toList.drop p) = .ok ((s.data.toList.drop (p + 1)).takeWhile (vf true)) ((s.data.toList.drop (p + 1)).drop (vlen s (p + 1) true + 1)) := by
    unfold rdVal
    rw [if_pos hq, List.drop_drop]
    unfold rdQuoted
    have h2 : ((s.data.toList.drop (p + 1)).drop ((s.data.toList.drop (p + 1)).takeWhile qvC).length).head? = some 34 := by
      rw [← h34, ← e2]; rfl
    rw [if_pos h2]; rfl
  unfold ValSays
  rw [e]
  exact ⟨rfl, of_list (vlen_cut hk), by rw [List.drop_drop, hk]; congr 1, by omega⟩
theorem val_open {s : ByteArray} {p k : Nat} (hq : (s.data.toList.drop p).head? = some 34) (hk : k = p + 1 + vlen s (p + 1) true) (h34 : (s.data.toList.drop k).head? ≠ some 34) (v : ByteArray) (q : Nat) : ValSays s p v q (eoE (s.data.toList.drop k)) := by
  have e2 : (s.data.toList.drop (p + 1)).drop (vlen s (p + 1) true) = s.data.toList.drop k := by rw [List.drop_drop, hk]
  have e : rdVal (s.data.toList.drop p) = .bad (eoE (s.data.toList.drop k)) := by
    unfold rdVal
    rw [if_pos hq, List.drop_drop]
    unfold rdQuoted
    have h2 : ¬ ((s.data.toList.drop (p + 1)).drop ((s.data.toList.drop (p + 1)).takeWhile qvC).length).head? = some 34 := by
      intro hh; apply h34; rw [← hh, ← e2]; rfl
    rw [if_neg h2, ← e2]; rfl
  unfold ValSays
  rw [e]
theorem isV_false {s : ByteArray} {p : Nat} {c : UInt8} (h : isV s p 0 c = false) : (s.data.toList.drop p).head? ≠ some c := by
  intro hh
  have := (isV_iff (s := s) (p := p) (e := 0) (c := c)).2 ⟨rfl, hh⟩
  rw [h] at this; cases this

end Go.Proofs.YtlfhhnjdfpgadaaGreatDoor

/-
  Layer 11: what the document's Parse has read so far, and what that says of the whole; its variables in memory.
-/
namespace Go.Proofs.YtlfhhnjdfpgadaaGreatDoor
open Go.RowKit

theorem rdMore_fuel : ∀ (f : Nat) (l : List UInt8) (vs : List (List UInt8)), l.length ≤ f → rdMore f l vs = rdMore l.length l vs := by
  intro f
  induction f using Nat.strongRecOn with
  | _ f ih =>
    intro l vs h
    cases l with
    | nil => cases f <;> simp [rdMore]
    | cons c t =>
      cases f with
      | zero => simp at h
      | succ f =>
        show rdMore (f + 1) (c :: t) vs = rdMore (t.length + 1) (c :: t) vs
        unfold rdMore
        split
        · cases hv : rdVal (List.drop 1 (c :: t)) with
          | bad e => rfl
          | ok v r =>
            have hl := rdVal_len hv
            simp only [List.drop_succ_cons, List.drop_zero] at hl
            simp only [List.length_cons] at h
            show rdMore f r (vs ++ [v]) = rdMore t.length r (vs ++ [v])
            rw [ih f (by omega) r _ (by omega), ih t.length (by omega) r _ hl]
        · rfl
theorem rdPars_fuel : ∀ (f : Nat) (l : List UInt8) (ps : List Par), l.length ≤ f → rdPars f l ps = rdPars l.length l ps := by
  intro f
  induction f using Nat.strongRecOn with
  | _ f ih =>
    intro l ps h
    cases l with
    | nil => cases f <;> simp [rdPars]
    | cons c t =>
      cases f with
      | zero => simp at h
      | succ f =>
        show rdPars (f + 1) (c :: t) ps = rdPars (t.length + 1) (c :: t) ps
        unfold rdPars
        split
        · split
          · rfl
          · cases hv : rdPar (List.drop 1 (c :: t)) with
            | bad e => rfl
            | ok p r =>
              have hl := rdPar_len hv
              simp only [List.drop_succ_cons, List.drop_zero] at hl
              simp only [List.length_cons] at h
              show rdPars f r (ps ++ [p]) = rdPars t.length r (ps ++ [p])
              rw [ih f (by omega) r _ (by omega), ih t.length (by omega) r _ (by omega)]
        · rfl
def moreW (l : List UInt8) (vs : List (List UInt8)) : Got (List (List UInt8)) := rdMore l.length l vs
def parsW (l : List UInt8) (ps : List Par) : Got (List Par) := rdPars l.length l ps
theorem moreW_stop {l : List UInt8} (h : l.head? ≠ some 44) (vs : List (List UInt8)) : moreW l vs = .ok vs l := by
  unfold moreW
  cases l with
  | nil => rfl
  | cons c t =>
    show rdMore (t.length + 1) (c :: t) vs = _
    rw [rdMore, if_neg h]
theorem moreW_on {l : List UInt8} (h : l.head? = some 44) (vs : List (List UInt8)) : moreW l vs = (match rdVal (l.drop 1) with | .ok v r => moreW r (vs ++ [v]) | .bad e => .bad e) := by
  cases l with
  | nil => cases h
  | cons c t =>
    show rdMore (t.length + 1) (c :: t) vs = _
    rw [rdMore, if_pos h]
    cases hv : rdVal (List.drop 1 (c :: t)) with
    | bad e => rfl
    | ok v r =>
      have hl := rdVal_len hv
      exact rdMore_fuel _ _ _ (by simpa using hl)
theorem parsW_stop {l : List UInt8} (h : l.head? ≠ some 59) (ps : List Par) : parsW l ps = .ok ps l := by
  unfold parsW
  cases l with
  | nil => rfl
  | cons c t =>
    show rdPars (t.length + 1) (c :: t) ps = _
    rw [rdPars, if_neg h]
theorem parsW_on {l : List UInt8} (h : l.head? = some 59) (ps : List Par) : parsW l ps = (match (if ps.length = 16 then .bad 27 else rdPar (l.drop 1) : Got Par) with | .bad e => .bad e | .ok p r => parsW r (ps ++ [p])) := by
  cases l with
  | nil => cases h
  | cons c t =>
    show rdPars (t.length + 1) (c :: t) ps = _
    rw [rdPars, if_pos h]
    by_cases h16 : ps.length = 16
    · rw [if_pos h16, if_pos h16]
    · rw [if_neg h16, if_neg h16]
      cases hv : rdPar (List.drop 1 (c :: t)) with
      | bad e => rfl
      | ok p r =>
        have hl := rdPar_len hv
        exact rdPars_fuel _ _ _ (by simp at hl; omega)

/-- Between two parameters. -/
def S1 (s : ByteArray) (T : Got (List Par)) (q : Nat) (e : Int) (l : List PR) : Prop :=
  (e = 0 → l.length ≤ 16 ∧ T = parsW (s.data.toList.drop q) (l.map parOf)) ∧ (e ≠ 0 → T = .bad e)
/-- What a parameter behind the ; is. -/
def parG (s : ByteArray) (q : Nat) (l : List PR) : Got Par := if l.length = 16 then .bad 27 else rdPar (s.data.toList.drop (q + 1))
theorem S1.on {s : ByteArray} {T : Got (List Par)} {q : Nat} {l : List PR} (h : S1 s T q 0 l) (hq : (s.data.toList.drop q).head? = some 59) :
    T = (match parG s q l with | .bad e => .bad e | .ok p r => parsW r (l.map parOf ++ [p])) := by
  rw [(h.1 rfl).2, parsW_on hq, List.length_map, List.drop_drop]
  rfl
theorem S1.stop {s : ByteArray} {T : Got (List Par)} {q : Nat} {l : List PR} (h : S1 s T q 0 l) (hq : (s.data.toList.drop q).head? ≠ some 59) : T = .ok (l.map parOf) (s.data.toList.drop q) := by
  rw [(h.1 rfl).2, parsW_stop hq]
/-- What comes behind a parameter's name. -/
def afterN (n : List UInt8) (r : List UInt8) : Got Par :=
  if r.head? = some 61 then (match rdVal (r.drop 1) with | .bad e => .bad e | .ok v r2 => (match moreW r2 [v] with | .bad e => .bad e | .ok vs r3 => .ok ⟨n, vs⟩ r3)) else .bad (eoE r)
theorem rdPar_is (l : List UInt8) : rdPar l = (match rdName l with | .bad e => .bad e | .ok n r => afterN n r) := by
  unfold rdPar
  cases rdName l with
  | bad e => rfl
  | ok n r => rfl
/-- Behind a parameter's name. -/
def S2 (s : ByteArray) (TP : Got Par) (nm : ByteArray) (q : Nat) (e : Int) : Prop := (e = 0 → TP = afterN nm.data.toList (s.data.toList.drop q)) ∧ (e ≠ 0 → TP = .bad e)
theorem rdName_bad {l : List UInt8} {k : Int} (h : rdName l = .bad k) : k ≠ 0 := by
  unfold rdName at h
  split at h
  · injection h with h; rw [← h]; decide
  · split at h
    · injection h with h; rw [← h]; exact eoE_pos _
    · cases h
theorem rdVal_bad {l : List UInt8} {k : Int} (h : rdVal l = .bad k) : k ≠ 0 := by
  unfold rdVal rdQuoted at h
  split at h
  · split at h
    · cases h
    · injection h with h; rw [← h]; exact eoE_pos _
  · cases h
theorem S2.of {s : ByteArray} {q : Nat} {l : List PR} {e1 e2 : Int} {nm : ByteArray} {q1 : Nat} (he : (e1 = 0 ∧ l.length ≠ 16) ∨ (e1 = 27 ∧ l.length = 16)) (h : NameSays s (q + 1) e1 nm q1 e2) : S2 s (parG s q l) nm q1 e2 := by
  unfold parG
  rcases he with ⟨rfl, hl⟩ | ⟨rfl, hl⟩
  · rw [if_neg hl, rdPar_is]
    have h2 := h.2 rfl
    cases hn : rdName (s.data.toList.drop (q + 1)) with
    | bad k =>
      rw [hn] at h2
      dsimp only at h2
      subst h2
      exact ⟨fun h => absurd h (rdName_bad hn), fun _ => rfl⟩
    | ok n r =>
      rw [hn] at h2
      dsimp only at h2
      obtain ⟨rfl, rfl, h3⟩ := h2
      exact ⟨fun _ => by rw [h3], fun h => absurd rfl h⟩
  · rw [if_pos hl]
    have h2 := h.1 (by decide)
    subst h2
    exact ⟨fun h => absurd h (by decide), fun _ => rfl⟩
/-- Behind the = of a parameter. -/
def S2b (s : ByteArray) (TP : Got Par) (nm : ByteArray) (q : Nat) (e : Int) : Prop :=
  (e = 0 → q < s.size ∧ TP = (match rdVal (s.data.toList.drop (q + 1)) with | .bad e => .bad e | .ok v r2 => (match moreW r2 [v] with | .bad e => .bad e | .ok vs r3 => .ok ⟨nm.data.toList, vs⟩ r3))) ∧ (e ≠ 0 → TP = .bad e)
theorem S2.is {s : ByteArray} {TP : Got Par} {nm : ByteArray} {q : Nat} {e : Int} (h : S2 s TP nm q e) (hi : isV s q e 61 = true) : S2b s TP nm q e := by
  have hi' := isV_iff.1 hi
  obtain ⟨rfl, hq⟩ := isV_lt hi
  refine ⟨fun _ => ⟨hq, ?_⟩, fun h => absurd rfl h⟩
  rw [h.1 rfl]
  unfold afterN
  rw [if_pos hi'.2, List.drop_drop]
theorem S2.isnt {s : ByteArray} {TP : Got Par} {nm : ByteArray} {q : Nat} {e : Int} (h : S2 s TP nm q e) (hi : isV s q e 61 = false) : S2b s TP nm q (keepE e (eoE (s.data.toList.drop q))) := by
  by_cases he : e = 0
  · subst he
    rw [keepE_zero]
    refine ⟨fun h => absurd h (eoE_pos _), fun _ => ?_⟩
    rw [h.1 rfl]
    unfold afterN
    rw [if_neg (isV_false hi)]
  · rw [keepE_ne he]
    exact ⟨fun h => absurd h he, fun _ => h.2 he⟩
/-- Between two values. -/
def S3 (s : ByteArray) (TP : Got Par) (nm : ByteArray) (q : Nat) (e : Int) (vs : List ByteArray) : Prop :=
  (e = 0 → TP = (match moreW (s.data.toList.drop q) (vs.map fun v => v.data.toList) with | .bad e => .bad e | .ok ws r3 => .ok ⟨nm.data.toList, ws⟩ r3)) ∧ (e ≠ 0 → TP = .bad e)
theorem S2b.bad {s : ByteArray} {TP : Got Par} {nm : ByteArray} {q q' : Nat} {e : Int} (h : S2b s TP nm q e) (he : e ≠ 0) (vs : List ByteArray) : S3 s TP nm q' e vs := ⟨fun h => absurd h he, fun _ => h.2 he⟩
theorem S2b.first {s : ByteArray} {TP : Got Par} {nm v : ByteArray} {q q2 : Nat} {e2 : Int} (h : S2b s TP nm q 0) (hv : ValSays s (q + 1) v q2 e2) : S3 s TP nm q2 e2 [v] := by
  have ht := (h.1 rfl).2
  unfold ValSays at hv
  cases hr : rdVal (s.data.toList.drop (q + 1)) with
  | bad k =>
    rw [hr] at hv ht
    dsimp only at hv ht
    subst hv
    exact ⟨fun h => absurd h (rdVal_bad hr), fun _ => ht⟩
  | ok a r =>
    rw [hr] at hv ht
    dsimp only at hv ht
    obtain ⟨rfl, rfl, h3, _⟩ := hv
    refine ⟨fun _ => ?_, fun h => absurd rfl h⟩
    rw [ht, h3]
    rfl
theorem S3.next {s : ByteArray} {TP : Got Par} {nm v : ByteArray} {q q2 : Nat} {e2 : Int} {vs : List ByteArray} (h : S3 s TP nm q 0 vs) (hq : (s.data.toList.drop q).head? = some 44) (hv : ValSays s (q + 1) v q2 e2) : S3 s TP nm q2 e2 (vs ++ [v]) := by
  have ht := h.1 rfl
  rw [moreW_on hq, List.drop_drop] at ht
  unfold ValSays at hv
  cases hr : rdVal (s.data.toList.drop (q + 1)) with
  | bad k =>
    rw [hr] at hv ht
    dsimp only at hv ht
    subst hv
    exact ⟨fun h => absurd h (rdVal_bad hr), fun _ => ht⟩
  | ok a r =>
    rw [hr] at hv ht
    dsimp only at hv ht
    obtain ⟨rfl, rfl, h3, _⟩ := hv
    refine ⟨fun _ => ?_, fun h => absurd rfl h⟩
    rw [ht, h3, List.map_append]
    rfl
theorem S3.done {s : ByteArray} {T : Got (List Par)} {nm : ByteArray} {q0 q : Nat} {e : Int} {vs : List ByteArray} {l : List PR} (h : S3 s (parG s q0 l) nm q e vs) (hl : l.length ≤ 16)
    (ht : T = (match parG s q0 l with | .bad e => .bad e | .ok p r => parsW r (l.map parOf ++ [p]))) (hi : isV s q e 44 = false) (K : Option Addr) (k kc : Nat) : S1 s T q e (l ++ [⟨nm, K, k, kc, vs⟩]) := by
  by_cases he : e = 0
  · subst he
    have h1 := h.1 rfl
    rw [moreW_stop (isV_false hi)] at h1
    dsimp only at h1
    refine ⟨fun _ => ⟨?_, ?_⟩, fun h => absurd rfl h⟩
    · rcases Nat.lt_or_ge l.length 16 with h16 | h16
      · simp; omega
      · unfold parG at h1
        rw [if_pos (by omega)] at h1
        cases h1
    · rw [ht, h1, List.map_append]
      rfl
  · refine ⟨fun h => absurd h he, fun _ => ?_⟩
    rw [ht, h.2 he]

theorem val_mono {s v : ByteArray} {p q : Nat} (h : ValSays s p v q 0) (hp : p ≤ s.size) : p ≤ q ∧ q ≤ s.size := by
  unfold ValSays at h
  cases hr : rdVal (s.data.toList.drop p) with
  | bad k =>
    rw [hr] at h
    exact absurd h.symm (rdVal_bad hr)
  | ok a r =>
    rw [hr] at h
    obtain ⟨_, _, h3, h4⟩ := h
    have hl := rdVal_len hr
    rw [← h3, List.length_drop, List.length_drop, ← bsize] at hl
    omega
/-- What the parameters are, by the name's reading. -/
def tgt (s : ByteArray) (q1 : Nat) (e1 : Int) : Got (List Par) := if e1 = 0 then parsW (s.data.toList.drop q1) [] else .bad e1
theorem S1.start (s : ByteArray) (q1 : Nat) (e1 : Int) : S1 s (tgt s q1 e1) q1 e1 [] := by
  unfold tgt
  exact ⟨fun h => ⟨by simp, by rw [if_pos h]; rfl⟩, fun h => by rw [if_neg h]⟩
/-- What Parse tells where no more parameters come. -/
theorem par_end {s nm : ByteArray} {q1 q : Nat} {e1 e : Int} {l : List PR} (hs : s.size ≤ 1024) (hv : vld s.data.toList = true) (hn : NameSays s 0 0 nm q1 e1) (h : S1 s (tgt s q1 e1) q e l) (hi : isV s q e 59 = false) :
    (e ≠ 0 → parL s.data.toList = (noPro, e)) ∧ (e = 0 → parL s.data.toList = if (s.data.toList.drop q).head? = some 58 then (if (s.data.toList.drop (q + 1)).all (fun c => !ctlN c.toNat) = true then (⟨nm.data.toList, l.map parOf, s.data.toList.drop (q + 1)⟩, 0) else (noPro, 10)) else (noPro, eoE (s.data.toList.drop q))) := by
  have hL : parL s.data.toList = (match rdRest s.data.toList with | .ok p _ => (p, 0) | .bad e => (noPro, e)) := by
    unfold parL
    rw [if_neg (by rw [← bsize]; omega), if_pos hv]
    cases rdRest s.data.toList <;> rfl
  have h2 := hn.2 rfl
  rw [List.drop_zero] at h2
  unfold rdRest at hL
  cases hr : rdName s.data.toList with
  | bad k =>
    rw [hr] at h2 hL
    dsimp only at h2 hL
    subst h2
    have hk := rdName_bad hr
    have ht : tgt s q1 e1 = .bad e1 := by unfold tgt; rw [if_neg hk]
    rw [ht] at h
    by_cases he : e = 0
    · subst he
      have := h.stop (isV_false hi)
      cases this
    · have := h.2 he
      injection this with this
      subst this
      exact ⟨fun _ => hL, fun h => absurd h he⟩
  | ok n r =>
    rw [hr] at h2 hL
    dsimp only at h2 hL
    obtain ⟨rfl, rfl, h3⟩ := h2
    have ht : tgt s q1 0 = rdPars r.length r [] := by unfold tgt parsW; rw [if_pos rfl, h3]
    rw [ht] at h
    by_cases he : e = 0
    · subst he
      have h4 := h.stop (isV_false hi)
      rw [h4] at hL
      dsimp only at hL
      refine ⟨fun h => absurd rfl h, fun _ => ?_⟩
      rw [hL, List.drop_drop]
      by_cases h58 : (s.data.toList.drop q).head? = some 58
      · rw [if_pos h58, if_pos h58]
        by_cases ha : (s.data.toList.drop (q + 1)).all (fun c => !ctlN c.toNat) = true
        · rw [if_pos ha, if_pos ha]
        · rw [if_neg ha, if_neg ha]
      · rw [if_neg h58, if_neg h58]
    · have h4 := h.2 he
      rw [h4] at hL
      exact ⟨fun _ => hL, fun h => absurd h he⟩

end Go.Proofs.YtlfhhnjdfpgadaaGreatDoor
