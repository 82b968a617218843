/-
  The document's own answers of layer 11: whether a property can be, and how it is written.
-/
import Derived.Test.YtipmeooldopkmaaDoorL12
import Derived.Test.YtipmeooldopkmaaDoorL07
import Derived.Deep.LoopGhost
import Derived.Deep.QuietTactic
import Derived.BigQuiet
namespace Go.Proofs.YtipmeooldopkmaaDoor
open Go.RowKit

def parB (x : Par) : Bool := nameB x.name && (decide (x.vals ≠ []) && x.vals.all fun v => plainB v false)
/-- Whether a property can be, told. -/
def fitB (p : Pro) : Bool := nameB p.name && (decide (p.pars.length ≤ 16) && (plainB p.value true && (p.pars.all parB && decide ((textL p).length ≤ 1024))))
theorem fitB_iff (p : Pro) : fitB p = true ↔ proOk p := by
  unfold fitB proOk
  have hp : ∀ x : Par, parB x = true ↔ parOk x := by
    intro x
    unfold parB parOk
    simp only [Bool.and_eq_true, nameB_iff, decide_eq_true_eq, List.all_eq_true, plainB_iff]
  simp only [Bool.and_eq_true, nameB_iff, decide_eq_true_eq, List.all_eq_true, valueB_iff, hp]
/-- The block g is a parameter's variable. -/
def X2 (w : World) (g : Nat) (r : PR) : Prop := w.heap[g]? = some (.cells #[.string r.name, .slice r.K r.k r.kc] 57 (0, 0))
def putX (w : World) (g : Nat) (r : PR) : World := (w.setCell ⟨g, 0, none⟩ (.string r.name)).setCell ⟨g, 1, none⟩ (.slice r.K r.k r.kc)
section
variable {w w' : World} {g : Nat} {r : PR}
theorem X2.lt (h : X2 w g r) : g < w.heap.size := by
  rcases Nat.lt_or_ge g w.heap.size with hlt | hge
  · exact hlt
  · unfold X2 at h; rw [Array.getElem?_eq_none hge] at h; cases h
theorem X2.cells (h : X2 w g r) : w.cell? ⟨g, 0, none⟩ = some (.string r.name) ∧ w.cell? ⟨g, 1, none⟩ = some (.slice r.K r.k r.kc) := by
  unfold X2 at h
  exact ⟨by simp [World.cell?, h], by simp [World.cell?, h]⟩
theorem X2.step (h : X2 w g r) (hb : Below w.heap.size w w') : X2 w' g r := (hb.block g h.lt).trans h
theorem set_blk {v : World} {g : Nat} {A : Array Value} {T : TypeId} {fz : Nat × Nat} (h : v.heap[g]? = some (.cells A T fz)) (i : Nat) (u : Value) : (v.setCell ⟨g, i, none⟩ u).heap[g]? = some (.cells (A.setIfInBounds i u) T fz) := by
  simp [World.setCell, Array.getElem?_modify, h]
theorem X2.new (w : World) (r : PR) : X2 (w.alloc (.cells #[.string r.name, .slice r.K r.k r.kc] 57)) w.heap.size r := heap_alloc_new w _
theorem putX_below (w : World) (r : PR) (o : Obj) : Below w.heap.size w (putX (w.alloc o) w.heap.size r) :=
  (((Below.refl _ w).alloc (Nat.le_refl _) o).setCell (Nat.le_refl _) _).setCell (Nat.le_refl _) _
end
theorem alls_drop {α : Type} {f : α → Bool} {l : List α} {i : Nat} {x : α} (h : l[i]? = some x) : (l.drop i).all f = (f x && (l.drop (i + 1)).all f) := by
  obtain ⟨hi, e⟩ := List.getElem?_eq_some_iff.1 h
  rw [List.drop_eq_getElem_cons hi, List.all_cons, e]

set_option maxRecDepth 100000 in
set_option maxHeartbeats 8000000 in
theorem refFit11_any (nm vl : ByteArray) (L : Option Addr) (n c : Nat) (l : List PR) (w : World) (hR : Reads w w.heap.size 2 L n (encP l)) (hP : ∀ r ∈ l, POk w w.heap.size r) (hn : n ≤ c) (hc : c ≤ maxLen) (hsz : nm.size + psizes l + vl.size ≤ 1048576) :
    Calls Tryd.prog 13 #[.agg #[.string nm, .slice L n c, .string vl]] w fun e w' => e = .returned (.bool (fitB (proOf nm l vl))) ∧ Below w.heap.size w w' := by
  have HA := Lib.hid (PA.new hR hP hn hc nm vl)
  have HB : Hid (Below w.heap.size w (w.alloc (.cells #[.string nm, .slice L n c, .string vl] 24))) := Lib.hid ((Below.refl _ w).alloc (Nat.le_refl _) _)
  have hnm : n ≤ 9223372036854775807 := by have := hc; unfold maxLen at this; omega
  have HSZ := Lib.hid hsz
  have HPS : Hid (∀ r, r ∈ l → r.name.size ≤ 1048576 ∧ ∀ v ∈ r.vs, v.size ≤ 1048576) := Lib.hid fun r hr => by
    have h1 := psize_le hr
    unfold psize at h1
    refine ⟨by omega, fun v hv => ?_⟩
    have : v.size + 1 ≤ vsize r.vs := vsize_le hv
    omega
  have c1 := fun W => refNameOf_any nm (by omega) W
  have c2 := fun W => refPlain_any vl (by omega) true W
  have HN := Lib.hid (And.intro hn hc)
  have HL := Lib.hid HA.out.len
  have E0 := Lib.hid (show fitB (proOf nm l vl) = (nameB nm.data.toList && (decide (n ≤ 16) && (plainB vl.data.toList true && ((l.map parOf).all parB && decide ((textL (proOf nm l vl)).length ≤ 1024))))) by
    unfold fitB
    rw [show (proOf nm l vl).pars.length = n by unfold proOf; rw [List.length_map]; exact HL.out]
    rfl)
  clear hR hP hn hc hsz
  go_enter Tryd.func13, Tryd.ntmps13
  generalize hW : w.alloc (.cells #[.string nm, .slice L n c, .string vl] 24) = w1 at HA HB
  obtain ⟨x0, x1, x2⟩ := HA.out.bx.cells
  generalize nameB nm.data.toList = b1 at *
  generalize plainB vl.data.toList true = b2 at *
  go_wp2_with fail
  refine (c1 _).mono ?_
  rintro e w2 ⟨rfl, hb2⟩
  have HA2 := Lib.hid (HA.out.step hb2)
  have HB2 := Lib.hid (bstep HB.out hb2)
  clear hW HA HB hb2 x0 x1 x2
  obtain ⟨x0, x1, x2⟩ := HA2.out.bx.cells
  cases b1
  · have E : Hid (fitB (proOf nm l vl) = false) := Lib.hid (by rw [E0.out]; rfl)
    go_wp2
    go_ret
    exact ⟨by rw [E.out]; rfl, HB2.out⟩
  rw [Bool.true_and] at E0
  by_cases h16 : n ≤ 16
  · rw [decide_eq_true h16, Bool.true_and] at E0
    have g16 : decide ((16 : Int) < (n : Int)) = false := decide_eq_false (by omega)
    cases b2
    · have E : Hid (fitB (proOf nm l vl) = false) := Lib.hid (by rw [E0.out]; rfl)
      go_wp2_with (go_at_call 43; ((with_reducible refine (c2 _).mono ?_); rintro e w' ⟨rfl, hw⟩; subst w'))
      go_ret
      exact ⟨by rw [E.out]; rfl, HB2.out⟩
    rw [Bool.true_and] at E0
    go_wp2_with (go_at_call 43; ((with_reducible refine (c2 _).mono ?_); rintro e w' ⟨rfl, hw⟩; subst w'))
    clear x0 x1 x2 c1 c2
    go_loopw [3, 4, 5] (fun s3 s4 s5 wr => ∃ i : Nat, s3 = .int .i64 i ∧ i ≤ n ∧ Hid (PA wr w.heap.size nm vl L n c l ∧ Below w.heap.size w wr) ∧ Hid ((l.map parOf).all parB = ((l.map parOf).drop i).all parB)) (fun s3 _ _ _ => n - (intOf s3).toNat)
    case atStart => exact ⟨0, rfl, Nat.zero_le _, Lib.hid ⟨HA2.out, HB2.out⟩, Lib.hid rfl⟩
    case round =>
      clear HA2 HB2
      obtain ⟨i, rfl, hi, HJ, HV⟩ := hrel
      obtain ⟨x0, x1, x2⟩ := HJ.out.1.bx.cells
      by_cases hlt : i < n
      · obtain ⟨r, hr⟩ : ∃ r, l[i]? = some r := ⟨l[i]'(by have := HL.out; omega), List.getElem?_eq_getElem (by have := HL.out; omega)⟩
        obtain ⟨b, o, hLe, q0, q1⟩ := HJ.out.1.at hr
        have hmem := List.mem_of_getElem? hr
        have HST := Lib.hid (alls_drop (f := parB) (l := l.map parOf) (i := i) (x := parOf r) (by rw [List.getElem?_map, hr]; rfl))
        obtain ⟨hrn, hvv⟩ := HPS.out r hmem
        have HVV := Lib.hid hvv
        have cn := fun W => refNameOf_any r.name (by omega) W
        have HPB := Lib.hid (show parB (parOf r) = (nameB r.name.data.toList && (decide (r.vs.map (fun v => v.data.toList) ≠ []) && (r.vs.map (fun v => v.data.toList)).all fun v => plainB v false)) from rfl)
        have HX := Lib.hid (X2.new wr r)
        have HXB := Lib.hid ((Below.refl _ wr).alloc (Nat.le_refl _) (.cells #[.string r.name, .slice r.K r.k r.kc] 57))
        have HLM : Hid (r ∈ l) := Lib.hid hmem
        clear hr hmem hvv
        have HLE := Lib.hid hLe
        rw [hLe] at x1
        clear hLe
        generalize nameB r.name.data.toList = bn at *
        go_wp2_with fail
        refine (cn _).mono ?_
        rintro e w3 ⟨rfl, hb3⟩
        have HX3 := Lib.hid (HX.out.step hb3)
        have hbx := bstep HXB.out hb3
        have HJ3 := Lib.hid (And.intro (HJ.out.1.step hbx) (bstep HJ.out.2 hbx))
        have HPO := Lib.hid (HJ3.out.1.vs r HLM.out)
        have HKL := Lib.hid HPO.out.len
        have hkm : r.k ≤ 9223372036854775807 := by have := HPO.out.le; have := HPO.out.cap; unfold maxLen at this; omega
        clear HX HXB HJ hb3 hbx x0 x1 x2 q0 q1 cn
        obtain ⟨z0, z1⟩ := HX3.out.cells
        cases bn
        · have E : Hid (fitB (proOf nm l vl) = false) := Lib.hid (by rw [E0.out, HV.out, HST.out, HPB.out]; rfl)
          go_wp2
          go_ret
          exact ⟨by rw [E.out]; rfl, HJ3.out.2⟩
        by_cases hk0 : r.k = 0
        · have hv : r.vs = [] := List.eq_nil_of_length_eq_zero (by rw [HKL.out]; exact hk0)
          have E : Hid (fitB (proOf nm l vl) = false) := Lib.hid (by rw [E0.out, HV.out, HST.out, HPB.out, hv]; rfl)
          have k0 : ((r.k : Int) == 0) = true := by rw [beq_iff_eq]; omega
          clear hv hk0
          go_wp2
          go_ret
          exact ⟨by rw [E.out]; rfl, HJ3.out.2⟩
        have hvne : r.vs.map (fun v => v.data.toList) ≠ [] := fun e => by
          have := congrArg List.length e
          rw [List.length_map, HKL.out, List.length_nil] at this
          exact hk0 this
        rw [Bool.true_and, decide_eq_true hvne, Bool.true_and] at HPB
        have k0 : ((r.k : Int) == 0) = false := by rw [beq_eq_false_iff_ne]; omega
        clear hvne
        go_wp2
        clear z0 z1
        go_loopw [5] (fun s5 wr2 => ∃ k : Nat, s5 = .int .i64 k ∧ k ≤ r.k ∧ wr2 = w3 ∧ Hid (((r.vs.map (fun v => v.data.toList)).all fun v => plainB v false) = (((r.vs.map (fun v => v.data.toList)).drop k).all fun v => plainB v false))) (fun s5 _ => r.k - (intOf s5).toNat)
        case atStart => exact ⟨0, rfl, Nat.zero_le _, rfl, Lib.hid rfl⟩
        case round =>
          obtain ⟨k, rfl, hk, rfl, HU⟩ := hrel
          obtain ⟨z0, z1⟩ := HX3.out.cells
          by_cases hlt2 : k < r.k
          · obtain ⟨v, hv⟩ : ∃ v, r.vs[k]? = some v := ⟨r.vs[k]'(by have := HKL.out; omega), List.getElem?_eq_getElem (by have := HKL.out; omega)⟩
            obtain ⟨b2, o2, hKe, q2⟩ := HPO.out.at hv
            have hvs := HVV.out v (List.mem_of_getElem? hv)
            have cp := fun W => refPlain_any v (by omega) false W
            have HUS := Lib.hid (alls_drop (f := fun v => plainB v false) (l := r.vs.map fun v => v.data.toList) (i := k) (x := v.data.toList) (by rw [List.getElem?_map, hv]; rfl))
            rw [hKe] at z1
            clear hv hKe
            generalize plainB v.data.toList false = bp at *
            cases bp
            · have E : Hid (fitB (proOf nm l vl) = false) := Lib.hid (by rw [E0.out, HV.out, HST.out, HPB.out, HU.out, HUS.out]; rfl)
              go_wp2_with (go_at_call 43; ((with_reducible refine (cp _).mono ?_); rintro e w' ⟨rfl, hw⟩; subst w'))
              go_ret
              exact ⟨by rw [E.out]; rfl, HJ3.out.2⟩
            · have HU2 := Lib.hid (HU.out.trans HUS.out)
              rw [Bool.true_and] at HU2
              go_wp2_with (go_at_call 43; ((with_reducible refine (cp _).mono ?_); rintro e w' ⟨rfl, hw⟩; subst w'))
              go_round
              case rel => exact ⟨k + 1, by go_num, by omega, by first | rfl | trivial, HU2⟩
              case measure => simp [intOf]; omega
          · obtain rfl : k = r.k := by omega
            have HV2 : Hid ((l.map parOf).all parB = ((l.map parOf).drop (i + 1)).all parB) := Lib.hid (by
              rw [HV.out, HST.out, HPB.out, HU.out, List.drop_eq_nil_of_le (by rw [List.length_map, HKL.out]; exact Nat.le_refl _)]; rfl)
            go_wp2
            go_round
            case rel => exact ⟨i + 1, by go_num, by omega, HJ3, HV2⟩
            case measure => simp [intOf]; omega
      · obtain rfl : i = n := by omega
        have hall : (l.map parOf).all parB = true := by rw [HV.out, List.drop_eq_nil_of_le (by rw [List.length_map, HL.out]; exact Nat.le_refl _)]; rfl
        rw [hall, Bool.true_and] at E0
        clear hall
        have ct := refText11_any nm vl L i c l wr HJ.out.1.rd HJ.out.1.vs HJ.out.1.le HJ.out.1.cap HSZ.out
        have hts : (⟨(textL (proOf nm l vl)).toArray⟩ : ByteArray).size = (textL (proOf nm l vl)).length := mk_sizeL _
        generalize (⟨(textL (proOf nm l vl)).toArray⟩ : ByteArray) = T at *
        have HTS := Lib.hid hts
        clear hts
        go_wp2_with fail
        refine ct.mono ?_
        rintro e w4 ⟨rfl, hb4⟩
        by_cases h1024 : T.size ≤ 1024
        · have E : Hid (fitB (proOf nm l vl) = true) := Lib.hid (by rw [E0.out, ← HTS.out]; exact decide_eq_true h1024)
          go_wp2
          go_ret
          exact ⟨by rw [E.out]; first | rfl | (simp; done) | (simp; omega), bstep HJ.out.2 hb4⟩
        · have E : Hid (fitB (proOf nm l vl) = false) := Lib.hid (by rw [E0.out, ← HTS.out]; exact decide_eq_false h1024)
          have hi2 : decide ((T.size : Int) ≤ 1024) = false := decide_eq_false (by omega)
          go_wp2
          go_ret
          exact ⟨by rw [E.out]; first | rfl | (simp; done) | (simp; omega), bstep HJ.out.2 hb4⟩
  · have E : Hid (fitB (proOf nm l vl) = false) := Lib.hid (by rw [E0.out, decide_eq_false h16]; rfl)
    have g16 : decide ((16 : Int) < (n : Int)) = true := decide_eq_true (by omega)
    go_wp2
    go_ret
    exact ⟨by rw [E.out]; rfl, HB2.out⟩

/-- What Print tells. -/
def prnL (p : Pro) : List UInt8 := if fitB p = true then textL p else []

set_option maxRecDepth 100000 in
set_option maxHeartbeats 4000000 in
theorem refPrint11_any (nm vl : ByteArray) (L : Option Addr) (n c : Nat) (l : List PR) (w : World) (hR : Reads w w.heap.size 2 L n (encP l)) (hP : ∀ r ∈ l, POk w w.heap.size r) (hn : n ≤ c) (hc : c ≤ maxLen) (hsz : nm.size + psizes l + vl.size ≤ 1048576) :
    Calls Tryd.prog 15 #[.agg #[.string nm, .slice L n c, .string vl]] w fun e w' => e = .returned (.string ⟨(prnL (proOf nm l vl)).toArray⟩) ∧ Below w.heap.size w w' := by
  have HA := Lib.hid (PA.new hR hP hn hc nm vl)
  have HB : Hid (Below w.heap.size w (w.alloc (.cells #[.string nm, .slice L n c, .string vl] 24))) := Lib.hid ((Below.refl _ w).alloc (Nat.le_refl _) _)
  have HSZ := Lib.hid hsz
  clear hR hP hn hc hsz
  go_enter Tryd.func15, Tryd.ntmps15
  generalize hW : w.alloc (.cells #[.string nm, .slice L n c, .string vl] 24) = w1 at HA HB
  obtain ⟨x0, x1, x2⟩ := HA.out.bx.cells
  have cf := refFit11_any nm vl L n c l w1 HA.out.rd HA.out.vs HA.out.le HA.out.cap HSZ.out
  go_wp2_with fail
  refine cf.mono ?_
  rintro e w2 ⟨rfl, hb2⟩
  have HA2 := Lib.hid (HA.out.step hb2)
  have HB2 := Lib.hid (bstep HB.out hb2)
  clear hW HA HB hb2 x0 x1 x2 cf
  obtain ⟨x0, x1, x2⟩ := HA2.out.bx.cells
  cases hf : fitB (proOf nm l vl)
  · have E : Hid (prnL (proOf nm l vl) = []) := Lib.hid (by unfold prnL; rw [hf]; rfl)
    clear hf
    go_wp2
    go_ret
    exact ⟨by rw [E.out]; rfl, HB2.out⟩
  · have E : Hid (prnL (proOf nm l vl) = textL (proOf nm l vl)) := Lib.hid (by unfold prnL; rw [hf]; rfl)
    have ct := refText11_any nm vl L n c l w2 HA2.out.rd HA2.out.vs HA2.out.le HA2.out.cap HSZ.out
    rw [← E.out] at ct
    clear hf
    obtain ⟨T, hT⟩ : ∃ T : ByteArray, (⟨(prnL (proOf nm l vl)).toArray⟩ : ByteArray) = T := ⟨_, rfl⟩
    rw [hT] at ct
    have HT := Lib.hid hT
    clear hT
    go_wp2_with fail
    refine ct.mono ?_
    rintro e w3 ⟨rfl, hb3⟩
    go_wp2
    go_ret
    exact ⟨by rw [HT.out]; rfl, bstep HB2.out hb3⟩

end Go.Proofs.YtipmeooldopkmaaDoor

/-
  The document's own answers of layer 11: lists of texts, and properties, that are the same.
-/
namespace Go.Proofs.YtipmeooldopkmaaDoor
open Go.RowKit

theorem strNe (a b : ByteArray) : (a.toList != b.toList) = !decide (a.data.toList = b.data.toList) := by
  unfold bne
  rw [strEqL]

set_option maxRecDepth 100000 in
set_option maxHeartbeats 2000000 in
theorem refTexts8_any (A A' : Option Addr) (n c m c' : Nat) (a b : List ByteArray) (w : World) (ha : Reads w w.heap.size 1 A n (encS a)) (hb : Reads w w.heap.size 1 A' m (encS b)) (hn : n ≤ 9223372036854775807) (hm : m ≤ 9223372036854775807) :
    Calls Tryd.prog 20 #[.slice A n c, .slice A' m c'] w fun e w' => e = .returned (.bool (decide (a = b))) ∧ ∃ q, w' = w.drewN q := by
  have HA := Lib.hid ha
  have HB := Lib.hid hb
  have HL := Lib.hid (And.intro ha.lenS hb.lenS)
  clear ha hb
  by_cases hnm : n = m
  · subst hnm
    have ht : ((n : Int) != (n : Int)) = false := by simp
    obtain ⟨r, hr⟩ : ∃ r, r = decide (a = b) := ⟨_, rfl⟩
    rw [← hr]
    have HR := Lib.hid hr
    clear hr
    go_enter Tryd.func20, Tryd.ntmps20
    go_wp2
    go_loopg [5] n (fun g s5 wr => ∃ i q : Nat, i ≤ n ∧ n - i ≤ g ∧ s5 = .int .i64 i ∧ w.drewN q = wr ∧ Hid (∀ k, k < i → blk a k = blk b k))
    case atStart => exact ⟨0, 0, Nat.zero_le _, by omega, rfl, rfl, Lib.hid fun k hk => absurd hk (Nat.not_lt_zero _)⟩
    case round =>
      obtain ⟨i, q, hi, hg, rfl, rfl, J⟩ := hrel
      by_cases hlt : i < n
      · have hin : (i : Int) < (n : Int) := by omega
        obtain ⟨b1, o1, rfl, _, g1⟩ := HA.out.str hlt
        obtain ⟨b2, o2, rfl, _, g2⟩ := HB.out.str hlt
        have hx := strNe (blk a i) (blk b i)
        have hx2 := strEqL (blk a i) (blk b i)
        by_cases hxy : blk a i = blk b i
        · have JN : Hid (∀ k, k < i + 1 → blk a k = blk b k) := Lib.hid fun k hk => by
            by_cases e : k = i
            · rw [e]; exact hxy
            · exact J.out k (by omega)
          rw [decide_eq_true (by rw [hxy]), Bool.not_true, ← hxy] at hx
          rw [decide_eq_true (by rw [hxy]), ← hxy] at hx2
          rw [← hxy] at g2
          generalize blk a i = x at g1 g2 hx hx2
          clear hxy
          go_wp2_with fail
          go_quiet (fail)
          go_wp2
          go_roundg (n - (i + 1))
          case measure => omega
          case rel => exact ⟨i + 1, q + nq, by omega, by omega, by go_num, rfl, JN⟩
        · have HE : Hid (r = false) := Lib.hid (HR.out.trans (decide_eq_false (fun e => hxy (by rw [e]))))
          rw [decide_eq_false (fun e => hxy (ByteArray.ext (Array.toList_inj.1 e))), Bool.not_false] at hx
          rw [decide_eq_false (fun e => hxy (ByteArray.ext (Array.toList_inj.1 e)))] at hx2
          generalize blk a i = x at g1 hx hx2
          generalize blk b i = y at g2 hx hx2
          clear hxy
          go_wp2_with fail
          go_quiet (fail)
          go_wp2
          go_ret
          rw [HE.out]
          exact ⟨rfl, q + nq, World.drewN_drewN _ _ _⟩
      · have : i = n := by omega
        subst this
        have HE : Hid (r = true) := Lib.hid (HR.out.trans (decide_eq_true (by
          refine List.ext_getElem? fun k => ?_
          by_cases hk : k < i
          · have := J.out k hk
            unfold blk at this
            rw [List.getD_eq_getElem?_getD, List.getD_eq_getElem?_getD] at this
            rw [List.getElem?_eq_getElem (by rw [HL.out.1]; exact hk), List.getElem?_eq_getElem (by rw [HL.out.2]; exact hk)] at this ⊢
            simpa using this
          · rw [List.getElem?_eq_none (by rw [HL.out.1]; omega), List.getElem?_eq_none (by rw [HL.out.2]; omega)])))
        go_wp2
        go_ret
        rw [HE.out]
        exact ⟨rfl, q, rfl⟩
  · have ht : ((n : Int) != (m : Int)) = true := by simp only [bne_iff_ne, ne_eq]; omega
    have HD : Hid (decide (a = b) = false) := Lib.hid (decide_eq_false (fun e => hnm (by rw [← HL.out.1, ← HL.out.2, e])))
    rw [HD.out]
    clear HA HB HL HD
    go_enter Tryd.func20, Tryd.ntmps20
    go_wp2
    go_ret
    exact ⟨rfl, 0, rfl⟩

theorem below_dr {w W : World} (h : Below w.heap.size w W) (q : Nat) : Below w.heap.size w (W.drewN q) := ⟨h.1, h.2, h.3, h.4, h.5⟩
theorem map_ba_inj : ∀ {a b : List ByteArray}, (a.map fun v => v.data.toList) = (b.map fun v => v.data.toList) → a = b
  | [], [], _ => rfl
  | [], _ :: _, h => by simp at h
  | _ :: _, [], h => by simp at h
  | x :: a, y :: b, h => by
    simp only [List.map_cons, List.cons.injEq] at h
    rw [map_ba_inj h.2, ByteArray.ext (Array.toList_inj.1 h.1)]
theorem parOf_eq (r q : PR) : parOf r = parOf q ↔ r.name.data.toList = q.name.data.toList ∧ r.vs = q.vs := by
  unfold parOf
  rw [Par.mk.injEq]
  refine ⟨fun h => ⟨h.1, map_ba_inj h.2⟩, fun h => ⟨h.1, by rw [h.2]⟩⟩
theorem pro_ne {nm nm2 vl vl2 : ByteArray} {l l2 : List PR} (h : nm.data.toList ≠ nm2.data.toList ∨ vl.data.toList ≠ vl2.data.toList ∨ l.length ≠ l2.length ∨ ∃ (i : Nat) (r q : PR), l[i]? = some r ∧ l2[i]? = some q ∧ parOf r ≠ parOf q) :
    decide (proOf nm l vl = proOf nm2 l2 vl2) = false := by
  refine decide_eq_false fun e => ?_
  unfold proOf at e
  rw [Pro.mk.injEq] at e
  rcases h with h | h | h | ⟨i, r, q, h1, h2, h3⟩
  · exact h e.1
  · exact h e.2.2
  · have := congrArg List.length e.2.1
    simp only [List.length_map] at this
    exact h this
  · have := congrArg (·[i]?) e.2.1
    simp only [List.getElem?_map, h1, h2, Option.map_some, Option.some.injEq] at this
    exact h3 this
theorem pro_eq {nm nm2 vl vl2 : ByteArray} {l l2 : List PR} (h1 : nm.data.toList = nm2.data.toList) (h2 : vl.data.toList = vl2.data.toList) (h3 : l.length = l2.length) (h : ∀ (i : Nat) (r q : PR), l[i]? = some r → l2[i]? = some q → parOf r = parOf q) :
    decide (proOf nm l vl = proOf nm2 l2 vl2) = true := by
  refine decide_eq_true ?_
  unfold proOf
  rw [Pro.mk.injEq]
  refine ⟨h1, ?_, h2⟩
  refine List.ext_getElem? fun i => ?_
  rw [List.getElem?_map, List.getElem?_map]
  by_cases hi : i < l.length
  · rw [List.getElem?_eq_getElem hi, List.getElem?_eq_getElem (by omega), Option.map_some, Option.map_some, h i _ _ (List.getElem?_eq_getElem hi) (List.getElem?_eq_getElem (by omega))]
  · rw [List.getElem?_eq_none (by omega), List.getElem?_eq_none (by omega)]

set_option maxRecDepth 100000 in
set_option maxHeartbeats 8000000 in
theorem refSame11_any (nm vl nm2 vl2 : ByteArray) (L L2 : Option Addr) (n c n2 c2 : Nat) (l l2 : List PR) (w : World) (hR : Reads w w.heap.size 2 L n (encP l)) (hP : ∀ r ∈ l, POk w w.heap.size r) (hn : n ≤ c) (hc : c ≤ maxLen)
    (hR2 : Reads w w.heap.size 2 L2 n2 (encP l2)) (hP2 : ∀ r ∈ l2, POk w w.heap.size r) (hn2 : n2 ≤ c2) (hc2 : c2 ≤ maxLen) :
    Calls Tryd.prog 8 #[.agg #[.string nm, .slice L n c, .string vl], .agg #[.string nm2, .slice L2 n2 c2, .string vl2]] w fun e w' => e = .returned (.bool (decide (proOf nm l vl = proOf nm2 l2 vl2))) ∧ Below w.heap.size w w' := by
  have hb1 : Below w.heap.size w (w.alloc (.cells #[.string nm, .slice L n c, .string vl] 24)) := (Below.refl _ w).alloc (Nat.le_refl _) _
  have hb2 := (Below.refl _ (w.alloc (.cells #[.string nm, .slice L n c, .string vl] 24))).alloc (Nat.le_refl _) (.cells #[.string nm2, .slice L2 n2 c2, .string vl2] 24)
  have HA := Lib.hid ((PA.new hR hP hn hc nm vl).step hb2)
  have HA2 := Lib.hid (PA.new (hR2.step hb1) (fun r hr => (hP2 r hr).step hb1) hn2 hc2 nm2 vl2)
  have HB := Lib.hid (bstep hb1 hb2)
  have HL := Lib.hid (And.intro HA.out.len HA2.out.len)
  have hnm : n ≤ 9223372036854775807 := by have := hc; unfold maxLen at this; omega
  have hnm2 : n2 ≤ 9223372036854775807 := by have := hc2; unfold maxLen at this; omega
  clear hR hP hn hc hR2 hP2 hn2 hc2 hb1 hb2
  have e1 := strNe nm nm2
  have e2 := strNe vl vl2
  have f1 := strEqL nm nm2
  have f2 := strEqL vl vl2
  go_enter Tryd.func8, Tryd.ntmps8
  generalize hW : (w.alloc (.cells #[.string nm, .slice L n c, .string vl] 24)).alloc (.cells #[.string nm2, .slice L2 n2 c2, .string vl2] 24) = w1 at HA HA2 HB
  have hsz : (w.alloc (.cells #[.string nm, .slice L n c, .string vl] 24)).heap.size = w.heap.size + 1 := by simp
  rw [hsz] at HA2
  obtain ⟨x0, x1, x2⟩ := HA.out.bx.cells
  obtain ⟨y0, y1, y2⟩ := HA2.out.bx.cells
  by_cases h1 : nm.data.toList = nm2.data.toList
  · rw [decide_eq_true h1, Bool.not_true] at e1
    rw [decide_eq_true h1] at f1
    by_cases h2 : vl.data.toList = vl2.data.toList
    · rw [decide_eq_true h2, Bool.not_true] at e2
      rw [decide_eq_true h2] at f2
      by_cases h3 : n = n2
      · subst h3
        have H12 := Lib.hid (And.intro h1 h2)
        have ht : ((n : Int) != (n : Int)) = false := by simp
        clear h1 h2
        go_wp2
        clear hW hsz x0 x1 x2 y0 y1 y2 e1 e2 f1 f2 ht
        go_loopg [5] n (fun g s5 wr => ∃ i : Nat, i ≤ n ∧ n - i ≤ g ∧ s5 = .int .i64 i ∧ Hid (PA wr w.heap.size nm vl L n c l ∧ PA wr (w.heap.size + 1) nm2 vl2 L2 n c2 l2 ∧ Below w.heap.size w wr) ∧ Hid (∀ (k : Nat) (r q : PR), k < i → l[k]? = some r → l2[k]? = some q → parOf r = parOf q))
        case atStart => exact ⟨0, Nat.zero_le _, by omega, rfl, Lib.hid ⟨HA.out, HA2.out, HB.out⟩, Lib.hid fun k r q hk => absurd hk (Nat.not_lt_zero _)⟩
        case round =>
          clear HA HA2 HB
          obtain ⟨i, hi, hg, rfl, HJ, J⟩ := hrel
          obtain ⟨x0, x1, x2⟩ := HJ.out.1.bx.cells
          obtain ⟨y0, y1, y2⟩ := HJ.out.2.1.bx.cells
          by_cases hlt : i < n
          · obtain ⟨r, hr⟩ : ∃ r, l[i]? = some r := ⟨l[i]'(by have := HL.out.1; omega), List.getElem?_eq_getElem (by have := HL.out.1; omega)⟩
            obtain ⟨q, hq⟩ : ∃ q, l2[i]? = some q := ⟨l2[i]'(by have := HL.out.2; omega), List.getElem?_eq_getElem (by have := HL.out.2; omega)⟩
            obtain ⟨b, o, hLe, p0, p1⟩ := HJ.out.1.at hr
            obtain ⟨b2, o2, hLe2, q0, q1⟩ := HJ.out.2.1.at hq
            have HP1 := Lib.hid (HJ.out.1.vs r (List.mem_of_getElem? hr))
            have HP2 := Lib.hid (HJ.out.2.1.vs q (List.mem_of_getElem? hq))
            have hk1 : r.k ≤ 9223372036854775807 := by have := HP1.out.le; have := HP1.out.cap; unfold maxLen at this; omega
            have hk2 : q.k ≤ 9223372036854775807 := by have := HP2.out.le; have := HP2.out.cap; unfold maxLen at this; omega
            have ct : ∀ k, Calls Tryd.prog 20 #[.slice r.K r.k r.kc, .slice q.K q.k q.kc] (wr.drewN k) fun e w' => e = .returned (.bool (decide (r.vs = q.vs))) ∧ ∃ m, w' = (wr.drewN k).drewN m := fun k =>
              refTexts8_any r.K q.K r.k r.kc q.k q.kc r.vs q.vs (wr.drewN k) (HP1.out.rd.drewN k) (HP2.out.rd.drewN k) hk1 hk2
            have e3 := strNe r.name q.name
            have f3 := strEqL r.name q.name
            have HR := Lib.hid hr
            have HQ := Lib.hid hq
            have HLE := Lib.hid hLe
            have HLE2 := Lib.hid hLe2
            rw [hLe] at x1
            rw [hLe2] at y1
            clear hr hq hk1 hk2 hLe hLe2
            by_cases hnn : r.name.data.toList = q.name.data.toList
            · rw [decide_eq_true hnn, Bool.not_true] at e3
              rw [decide_eq_true hnn] at f3
              by_cases hvv : r.vs = q.vs
              · have J2 : Hid (∀ (k : Nat) (r q : PR), k < i + 1 → l[k]? = some r → l2[k]? = some q → parOf r = parOf q) := Lib.hid fun k r' q' hk h1 h2 => by
                  by_cases e : k = i
                  · subst e
                    have a1 := Option.some.inj (HR.out.symm.trans h1)
                    have a2 := Option.some.inj (HQ.out.symm.trans h2)
                    subst a1 a2
                    exact (parOf_eq _ _).2 ⟨hnn, hvv⟩
                  · exact J.out k r' q' (by omega) h1 h2
                rw [decide_eq_true hvv] at ct
                clear hnn hvv
                go_wp2_with fail
                go_quiet ((go_at_call 20; refine Calls.quiet_of (ct _)))
                have HJ2 := Lib.hid (And.intro (HJ.out.1.step (below_dr (Below.refl _ wr) nq)) (And.intro (HJ.out.2.1.step (below_dr (Below.refl _ wr) nq)) (below_dr HJ.out.2.2 nq)))
                go_wp2
                go_roundg (n - (i + 1))
                case measure => omega
                case rel => exact ⟨i + 1, by omega, by omega, by go_num, HJ2, J2⟩
              · have E := Lib.hid (pro_ne (nm := nm) (nm2 := nm2) (vl := vl) (vl2 := vl2) (l := l) (l2 := l2) (.inr (.inr (.inr ⟨i, r, q, HR.out, HQ.out, fun e => hvv ((parOf_eq _ _).1 e).2⟩))))
                rw [decide_eq_false hvv] at ct
                clear hnn hvv
                go_wp2_with fail
                go_quiet ((go_at_call 20; refine Calls.quiet_of (ct _)))
                go_wp2
                go_ret
                exact ⟨by rw [E.out]; rfl, below_dr HJ.out.2.2 nq⟩
            · have E := Lib.hid (pro_ne (nm := nm) (nm2 := nm2) (vl := vl) (vl2 := vl2) (l := l) (l2 := l2) (.inr (.inr (.inr ⟨i, r, q, HR.out, HQ.out, fun e => hnn ((parOf_eq _ _).1 e).1⟩))))
              rw [decide_eq_false hnn, Bool.not_false] at e3
              rw [decide_eq_false hnn] at f3
              clear hnn ct
              go_wp2_with fail
              go_quiet (fail)
              go_wp2
              go_ret
              exact ⟨by rw [E.out]; rfl, below_dr HJ.out.2.2 nq⟩
          · obtain rfl : i = n := by omega
            have E := Lib.hid (pro_eq (nm := nm) (nm2 := nm2) (vl := vl) (vl2 := vl2) (l := l) (l2 := l2) H12.out.1 H12.out.2 (by rw [HL.out.1, HL.out.2]) (fun k r q h1 h2 => J.out k r q (by have := (List.getElem?_eq_some_iff.1 h1).1; have := HL.out.1; omega) h1 h2))
            go_wp2
            go_ret
            exact ⟨by rw [E.out]; rfl, HJ.out.2.2⟩
      · have E := Lib.hid (pro_ne (nm := nm) (nm2 := nm2) (vl := vl) (vl2 := vl2) (l := l) (l2 := l2) (.inr (.inr (.inl (by rw [HL.out.1, HL.out.2]; exact h3)))))
        have ht : ((n : Int) != (n2 : Int)) = true := by simp only [bne_iff_ne, ne_eq]; omega
        clear h1 h2 h3
        go_wp2
        go_ret
        exact ⟨by rw [E.out]; rfl, HB.out⟩
    · rw [decide_eq_false h2, Bool.not_false] at e2
      rw [decide_eq_false h2] at f2
      have E := Lib.hid (pro_ne (nm := nm) (nm2 := nm2) (vl := vl) (vl2 := vl2) (l := l) (l2 := l2) (.inr (.inl h2)))
      clear h1 h2
      go_wp2
      go_ret
      exact ⟨by rw [E.out]; rfl, HB.out⟩
  · rw [decide_eq_false h1, Bool.not_false] at e1
    rw [decide_eq_false h1] at f1
    have E := Lib.hid (pro_ne (nm := nm) (nm2 := nm2) (vl := vl) (vl2 := vl2) (l := l) (l2 := l2) (.inl h1))
    clear h1
    go_wp2
    go_ret
    exact ⟨by rw [E.out]; rfl, HB.out⟩

end Go.Proofs.YtipmeooldopkmaaDoor
