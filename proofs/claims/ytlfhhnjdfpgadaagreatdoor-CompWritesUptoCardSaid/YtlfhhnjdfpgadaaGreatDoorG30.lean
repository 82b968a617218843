/-
  The program's Same: two components, their properties, and their components, one by one.
-/
import Derived.Test.YtlfhhnjdfpgadaaGreatDoorG07
import Derived.Test.YtlfhhnjdfpgadaaGreatDoorG29
import Derived.Test.YtlfhhnjdfpgadaaGreatDoorG26
import Derived.Test.YtlfhhnjdfpgadaaGreatDoorGS
import Derived.Test.YtlfhhnjdfpgadaaGreatDoorCards
import Derived.Test.YtlfhhnjdfpgadaaGreatDoorTie
import Derived.SizedLaws
import Derived.ProofKit
import Derived.OpenShut
import Derived.ChangeMaps5
import Derived.Deep.DeepHandedRow
import Derived.Deep.DeepWitnessRowRef
import Derived.Deep.DeepLaidRun
import Derived.Lay
import Derived.LaidMore
import Derived.Lib.LaidU8
import Derived.Shelf.Vars
namespace Go.Proofs.YtlfhhnjdfpgadaaGreatDoor
open Go.RowKit

def dec3 (a b : List Pro) : Bool := decide (a = b)
noncomputable def eqCs (a b : List CM) : Bool := @decide (a = b) (Classical.propDecidable _)
theorem eqCs_true {a b : List CM} (h : a = b) : eqCs a b = true := by unfold eqCs; exact @decide_eq_true _ (Classical.propDecidable _) h
theorem eqCs_false {a b : List CM} (h : a ≠ b) : eqCs a b = false := by unfold eqCs; exact @decide_eq_false _ (Classical.propDecidable _) h
theorem rowsC_ne {l l2 : List CR} (h : l.length ≠ l2.length ∨ ∃ (i : Nat) (r q : CR), l[i]? = some r ∧ l2[i]? = some q ∧ compOf r ≠ compOf q) : eqCs (l.map compOf) (l2.map compOf) = false := by
  refine eqCs_false fun e => ?_
  rcases h with h | ⟨i, r, q, h1, h2, h3⟩
  · have := congrArg List.length e
    simp only [List.length_map] at this
    exact h this
  · have := congrArg (·[i]?) e
    simp only [List.getElem?_map, h1, h2, Option.map_some, Option.some.injEq] at this
    exact h3 this
theorem eqC_mk (a a' : List UInt8) (b b' : List Pro) (c c' : List CM) : eqC (.mk a b c) (.mk a' b' c') = ((decide (a = a') && dec3 b b') && eqCs c c') := by
  rw [Bool.eq_iff_iff, eqC_iff, CM.mk.injEq]
  unfold dec3 eqCs
  simp only [Bool.and_eq_true, decide_eq_true_eq]
  exact ⟨fun h => ⟨⟨h.1, h.2.1⟩, h.2.2⟩, fun h => ⟨h.1.1, h.1.2, h.2⟩⟩

set_option maxRecDepth 100000 in
set_option maxHeartbeats 4000000 in
theorem eqfQ_any (A A' : Option Addr) (n c m c' : Nat) (l l2 : List QR) (w : World) (hR : Reads w w.heap.size 3 A n (enc3 fQ l)) (hQ : ∀ q ∈ l, QOk w w.heap.size q) (hR' : Reads w w.heap.size 3 A' m (enc3 fQ l2)) (hQ' : ∀ q ∈ l2, QOk w w.heap.size q)
    (hn : n ≤ 9223372036854775807) (hm : m ≤ 9223372036854775807) :
    Calls Tryz.prog 29 #[.slice A n c, .slice A' m c', .func (.func 30) #[] #[]] w fun e w' => e = .returned (.bool (dec3 (l.map proQ) (l2.map proQ))) ∧ Below w.heap.size w w' := by
  have HL := Lib.hid (And.intro hR.len3 hR'.len3)
  have HJ := Lib.hid (And.intro (And.intro hR hQ) (And.intro (And.intro hR' hQ') (Below.refl w.heap.size w)))
  clear hR hQ hR' hQ'
  obtain ⟨rb, hrb⟩ : ∃ rb, dec3 (l.map proQ) (l2.map proQ) = rb := ⟨_, rfl⟩
  rw [hrb]
  have HRB := Lib.hid hrb
  clear hrb
  by_cases h3 : n = m
  · subst h3
    have ht : ((n : Int) != (n : Int)) = false := by simp
    go_enter Tryz.func29, Tryz.ntmps29
    go_wp2
    clear ht
    go_loopw [17] (fun s5 wr => ∃ i : Nat, s5 = .int .i64 i ∧ i ≤ n ∧ Hid ((Reads wr wr.heap.size 3 A n (enc3 fQ l) ∧ ∀ q ∈ l, QOk wr wr.heap.size q) ∧ (Reads wr wr.heap.size 3 A' n (enc3 fQ l2) ∧ ∀ q ∈ l2, QOk wr wr.heap.size q) ∧ Below w.heap.size w wr) ∧ Hid (∀ (k : Nat) (r q : QR), k < i → l[k]? = some r → l2[k]? = some q → proQ r = proQ q)) (fun s5 _ => n - (intOf s5).toNat)
    case atStart => exact ⟨0, rfl, Nat.zero_le _, HJ, Lib.hid fun k r q hk => absurd hk (Nat.not_lt_zero _)⟩
    case round =>
      clear HJ
      obtain ⟨i, rfl, hi, HJ, J⟩ := hrel
      by_cases hlt : i < n
      · obtain ⟨r, hr⟩ : ∃ r, l[i]? = some r := ⟨l[i]'(by have := HL.out.1; omega), List.getElem?_eq_getElem (by have := HL.out.1; omega)⟩
        obtain ⟨q, hq⟩ : ∃ q, l2[i]? = some q := ⟨l2[i]'(by have := HL.out.2; omega), List.getElem?_eq_getElem (by have := HL.out.2; omega)⟩
        obtain ⟨b, o, hAe, _, p0, p1, p2⟩ := HJ.out.1.1.tri hr
        obtain ⟨b2, o2, hAe2, _, q0, q1, q2⟩ := HJ.out.2.1.1.tri hq
        have HP1 := Lib.hid (HJ.out.1.2 r (List.mem_of_getElem? hr))
        have HP2 := Lib.hid (HJ.out.2.1.2 q (List.mem_of_getElem? hq))
        have HR := Lib.hid hr
        have HQ := Lib.hid hq
        clear hr hq
        obtain ⟨sb, hsb⟩ : ∃ sb, decide (proQ r = proQ q) = sb := ⟨_, rfl⟩
        have HSB := Lib.hid hsb
        have ha1 : Below wr.heap.size wr (wr.alloc (.cells #[(fQ r).1, (fQ r).2.1, (fQ r).2.2] 30)) := (Below.refl _ wr).alloc (Nat.le_refl _) _
        have ha2 := (Below.refl _ (wr.alloc (.cells #[(fQ r).1, (fQ r).2.1, (fQ r).2.2] 30))).alloc (Nat.le_refl _) (.cells #[(fQ q).1, (fQ q).2.1, (fQ q).2.2] 30)
        have HA2 := Lib.hid (bstep ha1 ha2)
        have HP1 := Lib.hid (HP1.out.step HA2.out)
        have HP2 := Lib.hid (HP2.out.step HA2.out)
        have q0' := Lib.cell?_alloc_some (.cells #[(fQ r).1, (fQ r).2.1, (fQ r).2.2] 30) q0
        have q1' := Lib.cell?_alloc_some (.cells #[(fQ r).1, (fQ r).2.1, (fQ r).2.2] 30) q1
        have q2' := Lib.cell?_alloc_some (.cells #[(fQ r).1, (fQ r).2.1, (fQ r).2.2] 30) q2
        clear q0 q1 q2 ha1 ha2
        have ct := pSame_x r.name r.vl q.name q.vl r.L q.L r.n r.c q.n q.c r.ps q.ps _ HP1.out.rd HP1.out.vs HP1.out.le HP1.out.cap HP2.out.rd HP2.out.vs HP2.out.le HP2.out.cap
        rw [show decide (proOf r.name r.ps r.vl = proOf q.name q.ps q.vl) = sb from hsb] at ct
        clear hsb
        subst hAe hAe2
        simp only [fQ] at p0 p1 p2 q0' q1' q2' ct HA2
        go_wp2_with fail
        refine ct.mono ?_
        rintro e w7 ⟨rfl, hb7⟩
        have hw7 := bstep HA2.out hb7
        clear ct hb7 HA2 p0 p1 p2 q0' q1' q2' HP1 HP2
        cases sb
        · have E : Hid (rb = false) := Lib.hid (HRB.out.symm.trans (rows_ne (.inr ⟨i, _, _, HR.out, HQ.out, of_decide_eq_false HSB.out⟩)))
          have HF := Lib.hid (bstep HJ.out.2.2 hw7)
          clear hw7
          go_wp2
          go_ret
          exact ⟨by rw [E.out]; rfl, HF.out⟩
        · have J2 : Hid (∀ (k : Nat) (r q : QR), k < i + 1 → l[k]? = some r → l2[k]? = some q → proQ r = proQ q) := Lib.hid fun k r' q' hk h1 h2 => by
            by_cases e : k = i
            · subst e
              have a1 := Option.some.inj (HR.out.symm.trans h1)
              have a2 := Option.some.inj (HQ.out.symm.trans h2)
              subst a1 a2
              exact of_decide_eq_true HSB.out
            · exact J.out k r' q' (by omega) h1 h2
          have HJ2 := Lib.hid (And.intro (And.intro (HJ.out.1.1.step hw7) (fun q hq => (HJ.out.1.2 q hq).step hw7)) (And.intro (And.intro (HJ.out.2.1.1.step hw7) (fun q hq => (HJ.out.2.1.2 q hq).step hw7)) (bstep HJ.out.2.2 hw7)))
          clear hw7 HJ
          go_wp2
          go_round
          case rel => exact ⟨i + 1, by go_num, by omega, HJ2, J2⟩
          case measure => simp [intOf]; omega
      · obtain rfl : i = n := by omega
        have E : Hid (rb = true) := Lib.hid (HRB.out.symm.trans (decide_eq_true (map_ext (by rw [HL.out.1, HL.out.2]) (fun k r q h1 h2 => J.out k r q (by have := (List.getElem?_eq_some_iff.1 h1).1; have := HL.out.1; omega) h1 h2))))
        go_wp2
        go_ret
        exact ⟨by rw [E.out]; rfl, HJ.out.2.2⟩
  · have E : Hid (rb = false) := Lib.hid (HRB.out.symm.trans (rows_ne (.inl (by rw [HL.out.1, HL.out.2]; exact h3))))
    have ht : ((n : Int) != (m : Int)) = true := by simp only [bne_iff_ne, ne_eq]; omega
    clear h3
    go_enter Tryz.func29, Tryz.ntmps29
    go_wp2
    go_ret
    exact ⟨by rw [E.out]; rfl, Below.refl _ _⟩
set_option maxRecDepth 100000 in
set_option maxHeartbeats 4000000 in
theorem eqfC_any (N : Nat) (IH : ∀ (r r' : CR) (w : World), csize r ≤ N → COk w w.heap.size r → COk w w.heap.size r' → Calls Tryz.prog 18 #[.agg #[(fC r).1, (fC r).2.1, (fC r).2.2], .agg #[(fC r').1, (fC r').2.1, (fC r').2.2]] w fun e w' => e = .returned (.bool (eqC (compOf r) (compOf r'))) ∧ Below w.heap.size w w')
    (A A' : Option Addr) (n c m c' : Nat) (l l2 : List CR) (w : World) (hR : Reads w w.heap.size 3 A n (enc3 fC l)) (hQ : ∀ q ∈ l, COk w w.heap.size q) (hR' : Reads w w.heap.size 3 A' m (enc3 fC l2)) (hQ' : ∀ q ∈ l2, COk w w.heap.size q)
    (hn : n ≤ 9223372036854775807) (hm : m ≤ 9223372036854775807) (hM : csizes l ≤ N) :
    Calls Tryz.prog 31 #[.slice A n c, .slice A' m c', .func (.func 18) #[] #[]] w fun e w' => e = .returned (.bool (eqCs (l.map compOf) (l2.map compOf))) ∧ Below w.heap.size w w' := by
  have HL := Lib.hid (And.intro hR.len3 hR'.len3)
  have HJ := Lib.hid (And.intro (And.intro hR hQ) (And.intro (And.intro hR' hQ') (Below.refl w.heap.size w)))
  clear hR hQ hR' hQ'
  have HM := Lib.hid hM
  have IH := Lib.hid IH
  clear hM
  obtain ⟨rb, hrb⟩ : ∃ rb, eqCs (l.map compOf) (l2.map compOf) = rb := ⟨_, rfl⟩
  rw [hrb]
  have HRB := Lib.hid hrb
  clear hrb
  by_cases h3 : n = m
  · subst h3
    have ht : ((n : Int) != (n : Int)) = false := by simp
    go_enter Tryz.func31, Tryz.ntmps31
    go_wp2
    clear ht
    go_loopw [17] (fun s5 wr => ∃ i : Nat, s5 = .int .i64 i ∧ i ≤ n ∧ Hid ((Reads wr wr.heap.size 3 A n (enc3 fC l) ∧ ∀ q ∈ l, COk wr wr.heap.size q) ∧ (Reads wr wr.heap.size 3 A' n (enc3 fC l2) ∧ ∀ q ∈ l2, COk wr wr.heap.size q) ∧ Below w.heap.size w wr) ∧ Hid (∀ (k : Nat) (r q : CR), k < i → l[k]? = some r → l2[k]? = some q → compOf r = compOf q)) (fun s5 _ => n - (intOf s5).toNat)
    case atStart => exact ⟨0, rfl, Nat.zero_le _, HJ, Lib.hid fun k r q hk => absurd hk (Nat.not_lt_zero _)⟩
    case round =>
      clear HJ
      obtain ⟨i, rfl, hi, HJ, J⟩ := hrel
      by_cases hlt : i < n
      · obtain ⟨r, hr⟩ : ∃ r, l[i]? = some r := ⟨l[i]'(by have := HL.out.1; omega), List.getElem?_eq_getElem (by have := HL.out.1; omega)⟩
        obtain ⟨q, hq⟩ : ∃ q, l2[i]? = some q := ⟨l2[i]'(by have := HL.out.2; omega), List.getElem?_eq_getElem (by have := HL.out.2; omega)⟩
        obtain ⟨b, o, hAe, _, p0, p1, p2⟩ := HJ.out.1.1.tri hr
        obtain ⟨b2, o2, hAe2, _, q0, q1, q2⟩ := HJ.out.2.1.1.tri hq
        have HP1 := Lib.hid (HJ.out.1.2 r (List.mem_of_getElem? hr))
        have HP2 := Lib.hid (HJ.out.2.1.2 q (List.mem_of_getElem? hq))
        have HR := Lib.hid hr
        have HQ := Lib.hid hq
        have HMr := Lib.hid (Nat.le_trans (csize_mem (List.mem_of_getElem? hr)) HM.out)
        clear hr hq
        obtain ⟨sb, hsb⟩ : ∃ sb, eqC (compOf r) (compOf q) = sb := ⟨_, rfl⟩
        have HSB := Lib.hid hsb
        have ha1 : Below wr.heap.size wr (wr.alloc (.cells #[(fC r).1, (fC r).2.1, (fC r).2.2] 25)) := (Below.refl _ wr).alloc (Nat.le_refl _) _
        have ha2 := (Below.refl _ (wr.alloc (.cells #[(fC r).1, (fC r).2.1, (fC r).2.2] 25))).alloc (Nat.le_refl _) (.cells #[(fC q).1, (fC q).2.1, (fC q).2.2] 25)
        have HA2 := Lib.hid (bstep ha1 ha2)
        have HP1 := Lib.hid (HP1.out.step HA2.out)
        have HP2 := Lib.hid (HP2.out.step HA2.out)
        have q0' := Lib.cell?_alloc_some (.cells #[(fC r).1, (fC r).2.1, (fC r).2.2] 25) q0
        have q1' := Lib.cell?_alloc_some (.cells #[(fC r).1, (fC r).2.1, (fC r).2.2] 25) q1
        have q2' := Lib.cell?_alloc_some (.cells #[(fC r).1, (fC r).2.1, (fC r).2.2] 25) q2
        clear q0 q1 q2 ha1 ha2
        have ct := IH.out r q _ HMr.out HP1.out HP2.out
        rw [show eqC (compOf r) (compOf q) = sb from hsb] at ct
        clear hsb
        subst hAe hAe2
        obtain ⟨rn, rA, ra, rac, rqs, rK, rk, rkc, rcs⟩ := r; obtain ⟨qn, qA, qa, qac, qqs, qK, qk, qkc, qcs⟩ := q; simp only [fC] at p0 p1 p2 q0' q1' q2' ct HA2
        go_wp2_with fail
        refine ct.mono ?_
        rintro e w7 ⟨rfl, hb7⟩
        have hw7 := bstep HA2.out hb7
        clear ct hb7 HA2 p0 p1 p2 q0' q1' q2' HP1 HP2
        cases sb
        · have E : Hid (rb = false) := Lib.hid (HRB.out.symm.trans (rowsC_ne (.inr ⟨i, _, _, HR.out, HQ.out, of_eqC_false HSB.out⟩)))
          have HF := Lib.hid (bstep HJ.out.2.2 hw7)
          clear hw7
          go_wp2
          go_ret
          exact ⟨by rw [E.out]; rfl, HF.out⟩
        · have J2 : Hid (∀ (k : Nat) (r q : CR), k < i + 1 → l[k]? = some r → l2[k]? = some q → compOf r = compOf q) := Lib.hid fun k r' q' hk h1 h2 => by
            by_cases e : k = i
            · subst e
              have a1 := Option.some.inj (HR.out.symm.trans h1)
              have a2 := Option.some.inj (HQ.out.symm.trans h2)
              subst a1 a2
              exact eqC_iff.1 HSB.out
            · exact J.out k r' q' (by omega) h1 h2
          have HJ2 := Lib.hid (And.intro (And.intro (HJ.out.1.1.step hw7) (fun q hq => (HJ.out.1.2 q hq).step hw7)) (And.intro (And.intro (HJ.out.2.1.1.step hw7) (fun q hq => (HJ.out.2.1.2 q hq).step hw7)) (bstep HJ.out.2.2 hw7)))
          clear hw7 HJ
          go_wp2
          go_round
          case rel => exact ⟨i + 1, by go_num, by omega, HJ2, J2⟩
          case measure => simp [intOf]; omega
      · obtain rfl : i = n := by omega
        have E : Hid (rb = true) := Lib.hid (HRB.out.symm.trans (eqCs_true (map_ext (by rw [HL.out.1, HL.out.2]) (fun k r q h1 h2 => J.out k r q (by have := (List.getElem?_eq_some_iff.1 h1).1; have := HL.out.1; omega) h1 h2))))
        go_wp2
        go_ret
        exact ⟨by rw [E.out]; rfl, HJ.out.2.2⟩
  · have E : Hid (rb = false) := Lib.hid (HRB.out.symm.trans (rowsC_ne (.inl (by rw [HL.out.1, HL.out.2]; exact h3))))
    have ht : ((n : Int) != (m : Int)) = true := by simp only [bne_iff_ne, ne_eq]; omega
    clear h3
    go_enter Tryz.func31, Tryz.ntmps31
    go_wp2
    go_ret
    exact ⟨by rw [E.out]; rfl, Below.refl _ _⟩
set_option maxRecDepth 100000 in
set_option maxHeartbeats 4000000 in
theorem pSame12 : ∀ (N : Nat) (r r' : CR) (w : World), csize r ≤ N → COk w w.heap.size r → COk w w.heap.size r' →
    Calls Tryz.prog 18 #[.agg #[(fC r).1, (fC r).2.1, (fC r).2.2], .agg #[(fC r').1, (fC r').2.1, (fC r').2.2]] w fun e w' => e = .returned (.bool (eqC (compOf r) (compOf r'))) ∧ Below w.heap.size w w'
  | 0, .mk nm A n c qs K k kc cs, _, w, hN, _, _ => absurd hN (by simp [csize])
  | N + 1, .mk nm A n c qs K k kc cs, .mk nm' A' n' c' qs' K' k' kc' cs', w, hN, hC, hC' => by
    have hb1 : Below w.heap.size w (w.alloc (.cells #[.string nm, .slice A n c, .slice K k kc] 25)) := (Below.refl _ w).alloc (Nat.le_refl _) _
    have hb2 := (Below.refl _ (w.alloc (.cells #[.string nm, .slice A n c, .slice K k kc] 25))).alloc (Nat.le_refl _) (.cells #[.string nm', .slice A' n' c', .slice K' k' kc'] 25)
    have HA := Lib.hid ((CA.new hC).step hb2)
    have HA2 := Lib.hid (CA.new (hC'.step hb1))
    have HB := Lib.hid (bstep hb1 hb2)
    have HN : Hid (csizes cs ≤ N) := Lib.hid (by rw [csize] at hN; omega)
    have IH := Lib.hid (pSame12 N)
    have HNN : Hid ((n ≤ 9223372036854775807 ∧ n' ≤ 9223372036854775807) ∧ (k ≤ 9223372036854775807 ∧ k' ≤ 9223372036854775807)) := Lib.hid (by
      have h1 := hC.nle; have h2 := hC'.nle; have h3 := hC.kle; have h4 := hC'.kle
      unfold maxLen at h1 h2 h3 h4
      omega)
    clear hC hC' hN hb1 hb2
    rw [compOf_mk, compOf_mk, eqC_mk]
    show Calls Tryz.prog 18 #[.agg #[.string nm, .slice A n c, .slice K k kc], .agg #[.string nm', .slice A' n' c', .slice K' k' kc']] w _
    have f1 := strEqL nm nm'
    go_enter Tryz.func18, Tryz.ntmps18
    generalize hW : (w.alloc (.cells #[.string nm, .slice A n c, .slice K k kc] 25)).alloc (.cells #[.string nm', .slice A' n' c', .slice K' k' kc'] 25) = w1 at HA HA2 HB
    have hsz : (w.alloc (.cells #[.string nm, .slice A n c, .slice K k kc] 25)).heap.size = w.heap.size + 1 := by simp
    rw [hsz] at HA2
    obtain ⟨x0, x1, x2⟩ := HA.out.bx.cells
    obtain ⟨y0, y1, y2⟩ := HA2.out.bx.cells
    generalize decide (nm.data.toList = nm'.data.toList) = z1 at f1 ⊢
    cases z1
    · go_wp2
      go_ret
      exact ⟨by simp, HB.out⟩
    · have cq := eqfQ_any A A' n c n' c' qs qs' w1 HA.out.ok.rq HA.out.ok.vq HA2.out.ok.rq HA2.out.ok.vq HNN.out.1.1 HNN.out.1.2
      generalize dec3 (qs.map proQ) (qs'.map proQ) = z2 at cq ⊢
      go_wp2_with fail
      refine cq.mono ?_
      rintro e w2 ⟨rfl, hb2⟩
      have HJ := Lib.hid (And.intro (HA.out.step hb2) (And.intro (HA2.out.step hb2) (bstep HB.out hb2)))
      clear cq hb2 HA HA2 HB hW hsz x0 x1 x2 y0 y1 y2
      obtain ⟨x0, x1, x2⟩ := HJ.out.1.bx.cells
      obtain ⟨y0, y1, y2⟩ := HJ.out.2.1.bx.cells
      cases z2
      · go_wp2
        go_ret
        exact ⟨by simp, HJ.out.2.2⟩
      · have cc := eqfC_any N IH.out K K' k kc k' kc' cs cs' w2 HJ.out.1.ok.rc HJ.out.1.ok.vc HJ.out.2.1.ok.rc HJ.out.2.1.ok.vc HNN.out.2.1 HNN.out.2.2 HN.out
        obtain ⟨z3, hz3⟩ : ∃ z, eqCs (cs.map compOf) (cs'.map compOf) = z := ⟨_, rfl⟩
        rw [hz3] at cc
        have HZ3 := Lib.hid hz3
        clear hz3
        go_wp2_with fail
        refine cc.mono ?_
        rintro e w3 ⟨rfl, hb3⟩
        have HB3 := Lib.hid (bstep HJ.out.2.2 hb3)
        clear cc hb3 HJ x0 x1 x2 y0 y1 y2
        cases z3
        all_goals
          (go_wp2
           go_ret
           exact ⟨by simp [HZ3.out], HB3.out⟩)
end Go.Proofs.YtlfhhnjdfpgadaaGreatDoor

/-
  The program's functions of layer 12 under one shape: what each answers, and that it leaves what lay before. CV: what the listed variables hold.
-/
namespace Go.Proofs.YtlfhhnjdfpgadaaGreatDoor
open Go.RowKit

structure CV (w : World) : Prop where
  forms : Forms w
  max : MaxLn w
theorem CV.step {w w' : World} (h : CV w) (hb : Below w.heap.size w w') : CV w' := ⟨h.forms.step hb, h.max.step hb⟩
theorem cParse_any (s : ByteArray) (hs : s.size ≤ 1048576) (w : World) (hv : CV w) : Calls Tryz.prog 20 #[.string s] w (CParAns s w) := cParse_x s w hs hv.forms hv.max
theorem cFit_any (r : CR) (w : World) (hM : csize r ≤ 1048576) (hC : COk w w.heap.size r) (hv : CV w) : Calls Tryz.prog 11 #[.agg #[(fC r).1, (fC r).2.1, (fC r).2.2]] w fun e w' => e = .returned (.bool (fitT (compOf r))) ∧ Below w.heap.size w w' := cFit_x r w hM hC hv.forms
theorem cPrint_any (r : CR) (w : World) (hM : csize r ≤ 1048576) (hC : COk w w.heap.size r) (hv : CV w) : Calls Tryz.prog 13 #[.agg #[(fC r).1, (fC r).2.1, (fC r).2.2]] w fun e w' => e = .returned (.string ⟨(prnC (compOf r)).toArray⟩) ∧ Below w.heap.size w w' := cPrint_x r w hM hC hv.forms
theorem cSame_any (r r' : CR) (w : World) (hM : csize r ≤ 1048576) (_hM' : csize r' ≤ 1048576) (hC : COk w w.heap.size r) (hC' : COk w w.heap.size r') (_hv : CV w) :
    Calls Tryz.prog 18 #[.agg #[(fC r).1, (fC r).2.1, (fC r).2.2], .agg #[(fC r').1, (fC r').2.1, (fC r').2.2]] w fun e w' => e = .returned (.bool (eqC (compOf r) (compOf r'))) ∧ Below w.heap.size w w' := pSame12 _ r r' w hM hC hC'
theorem cProps_any (nm name : ByteArray) (A : Option Addr) (n c : Nat) (qs : List QR) (K : Option Addr) (k kc : Nat) (cs : List CR) (w : World) (hM : csize (.mk nm A n c qs K k kc cs) ≤ 1048576) (hC : COk w w.heap.size (.mk nm A n c qs K k kc cs)) (_hv : CV w) :
    Calls Tryz.prog 16 #[.agg #[.string nm, .slice A n c, .slice K k kc], .string name] w (CPrAns qs name w) := cProps_x nm name A n c qs K k kc cs w hM hC
theorem cProp_any (nm name : ByteArray) (A : Option Addr) (n c : Nat) (qs : List QR) (K : Option Addr) (k kc : Nat) (cs : List CR) (w : World) (hM : csize (.mk nm A n c qs K k kc cs) ≤ 1048576) (hC : COk w w.heap.size (.mk nm A n c qs K k kc cs)) (_hv : CV w) :
    Calls Tryz.prog 6 #[.agg #[.string nm, .slice A n c, .slice K k kc], .string name] w (CPpAns qs name w) := cProp_x nm name A n c qs K k kc cs w hM hC
theorem cComps_any (nm name : ByteArray) (A : Option Addr) (n c : Nat) (qs : List QR) (K : Option Addr) (k kc : Nat) (cs : List CR) (w : World) (hM : csize (.mk nm A n c qs K k kc cs) ≤ 1048576) (hC : COk w w.heap.size (.mk nm A n c qs K k kc cs)) (_hv : CV w) :
    Calls Tryz.prog 8 #[.agg #[.string nm, .slice A n c, .slice K k kc], .string name] w (CCmAns cs name w) := cComps_x nm name A n c qs K k kc cs w hM hC
end Go.Proofs.YtlfhhnjdfpgadaaGreatDoor

/-
  Chapter 12's examples: the statements' last part returns true.
-/
namespace Go.Proofs.YtlfhhnjdfpgadaaGreatDoor
open Go.RowKit

def exQ : Pro := ⟨[88], [], [49]⟩
def exX : CM := .mk [66] [] []
def exC : CM := .mk [65] [exQ] [exX]
theorem ex12_1 : parC [98, 101, 103, 105, 110, 58, 97, 10, 120, 58, 49, 10, 66, 69, 71, 73, 78, 58, 66, 10, 69, 78, 68, 58, 98, 10, 69, 78, 68, 58, 65] = .ok exC := by kernel_rfl
theorem ex12_2 : parC [66, 69, 71, 73, 78, 58, 65, 10, 69, 78, 68, 58, 66] = .error 31 := by kernel_rfl
theorem ex12_3 : parC [66, 69, 71, 73, 78, 58, 65] = .error 11 := by kernel_rfl
theorem ex12_4 : parC [88, 58, 49] = .error 10 := by kernel_rfl
theorem ex12_p : prnC exC = [66, 69, 71, 73, 78, 58, 65, 13, 10, 88, 58, 49, 13, 10, 66, 69, 71, 73, 78, 58, 66, 13, 10, 69, 78, 68, 58, 66, 13, 10, 69, 78, 68, 58, 65, 13, 10] := by decide +kernel
theorem bytes12 {v : ByteArray} {a : List UInt8} (h : v.data.toList = a) : v = ⟨a.toArray⟩ := by subst h; simp
/-- The first example. -/
theorem bParse1 (w : World) (hv : CV w) : Calls Tryz.prog 20 #[.string ⟨#[98, 101, 103, 105, 110, 58, 97, 10, 120, 58, 49, 10, 66, 69, 71, 73, 78, 58, 66, 10, 69, 78, 68, 58, 98, 10, 69, 78, 68, 58, 65]⟩] w fun e w' =>
    ∃ (A : Option Addr) (n c : Nat) (q : QR) (K : Option Addr) (k kc : Nat) (x : CR), e = .returned (.tuple #[.agg #[.string ⟨#[65]⟩, .slice A n c, .slice K k kc], .int .i64 0]) ∧ proQ q = exQ ∧ compOf x = exX ∧ COk w' w'.heap.size (.mk ⟨#[65]⟩ A n c [q] K k kc [x]) ∧ csize (.mk ⟨#[65]⟩ A n c [q] K k kc [x]) ≤ 1048576 ∧ Below w.heap.size w w' := by
  refine (cParse_any _ (by decide) w hv).mono fun e w' h => ?_
  obtain ⟨⟨nm, A, n, c, qs, K, k, kc, cs⟩, k0, rfl, hC, hM, hb, hm⟩ := h
  rw [show (⟨#[98, 101, 103, 105, 110, 58, 97, 10, 120, 58, 49, 10, 66, 69, 71, 73, 78, 58, 66, 10, 69, 78, 68, 58, 98, 10, 69, 78, 68, 58, 65]⟩ : ByteArray).data.toList = [98, 101, 103, 105, 110, 58, 97, 10, 120, 58, 49, 10, 66, 69, 71, 73, 78, 58, 66, 10, 69, 78, 68, 58, 98, 10, 69, 78, 68, 58, 65] from rfl, ex12_1] at hm
  obtain ⟨rfl, hm⟩ := hm
  rw [compOf_mk] at hm
  unfold exC at hm
  injection hm with h1 h2 h3
  obtain rfl := bytes12 h1
  obtain ⟨q, rfl, h4⟩ := List.map_eq_singleton_iff.1 h2
  obtain ⟨x, rfl, h5⟩ := List.map_eq_singleton_iff.1 h3
  exact ⟨A, n, c, q, K, k, kc, x, rfl, h4, h5, hC.ok, hM, hb⟩
/-- An example that is none. -/
theorem bParseE (s : ByteArray) (k : Int) (hs : s.size ≤ 1048576) (h : parC s.data.toList = .error k) (w : World) (hv : CV w) : Calls Tryz.prog 20 #[.string s] w fun e w' => ∃ (nm : ByteArray) (A : Option Addr) (n c : Nat) (K : Option Addr) (m mc : Nat), e = .returned (.tuple #[.agg #[.string nm, .slice A n c, .slice K m mc], .int .i64 k]) ∧ Below w.heap.size w w' := by
  refine (cParse_any s hs w hv).mono fun e w' h' => ?_
  obtain ⟨⟨nm, A, n, c, qs, K, m, mc, cs⟩, k0, rfl, _, _, hb, hm⟩ := h'
  rw [h] at hm
  obtain ⟨rfl, _⟩ := hm
  exact ⟨nm, A, n, c, K, m, mc, rfl, hb⟩
theorem bProp1 (A : Option Addr) (n c : Nat) (q : QR) (K : Option Addr) (k kc : Nat) (x : CR) (w : World) (hq : proQ q = exQ) (hM : csize (.mk ⟨#[65]⟩ A n c [q] K k kc [x]) ≤ 1048576) (hC : COk w w.heap.size (.mk ⟨#[65]⟩ A n c [q] K k kc [x])) (hv : CV w) :
    Calls Tryz.prog 6 #[.agg #[.string ⟨#[65]⟩, .slice A n c, .slice K k kc], .string ⟨#[88]⟩] w fun e w' => ∃ (nm : ByteArray) (L : Option Addr) (m mc : Nat), e = .returned (.tuple #[.agg #[.string nm, .slice L m mc, .string ⟨#[49]⟩], .bool true]) ∧ Below w.heap.size w w' := by
  have hn : named ⟨#[88]⟩ q = true := by
    unfold named
    have := congrArg Pro.name hq
    rw [decide_eq_true_eq]
    exact this
  have hf : [q].filter (named ⟨#[88]⟩) = [q] := by simp [hn]
  refine (cProp_any ⟨#[65]⟩ ⟨#[88]⟩ A n c [q] K k kc [x] w hM hC hv).mono fun e w' h => ?_
  obtain ⟨hb, ⟨h0, _⟩ | ⟨q1, l, q', h1, h2, _, _, rfl⟩⟩ := h
  · rw [hf] at h0; cases h0
  · rw [hf] at h1
    injection h1 with h1 _
    subst h1
    rw [hq] at h2
    have h3 : q'.vl.data.toList = [49] := by have := congrArg Pro.value h2; exact this
    rw [bytes12 h3]
    exact ⟨_, _, _, _, rfl, hb⟩
theorem bComps1 (A : Option Addr) (n c : Nat) (q : QR) (K : Option Addr) (k kc : Nat) (x : CR) (w : World) (hx : compOf x = exX) (hM : csize (.mk ⟨#[65]⟩ A n c [q] K k kc [x]) ≤ 1048576) (hC : COk w w.heap.size (.mk ⟨#[65]⟩ A n c [q] K k kc [x])) (hv : CV w) :
    Calls Tryz.prog 8 #[.agg #[.string ⟨#[65]⟩, .slice A n c, .slice K k kc], .string ⟨#[66]⟩] w fun e w' => ∃ (R : Option Addr) (C : Nat), e = .returned (.slice R 1 C) ∧ Below w.heap.size w w' := by
  have hn : namedC ⟨#[66]⟩ x = true := by
    unfold namedC
    rw [decide_eq_true_eq]
    obtain ⟨nm, A1, n1, c1, q1, K1, k1, kc1, cs1⟩ := x
    rw [compOf_mk] at hx
    unfold exX at hx
    injection hx with h1 _ _
  have hf : [x].filter (namedC ⟨#[66]⟩) = [x] := by simp [hn]
  refine (cComps_any ⟨#[65]⟩ ⟨#[66]⟩ A n c [q] K k kc [x] w hM hC hv).mono fun e w' h => ?_
  obtain ⟨R, N, C, l, rfl, hR, _, _, _, hl, _, hb⟩ := h
  rw [hf] at hl
  have h1 := congrArg List.length hl
  simp only [List.length_map, List.length_singleton] at h1
  have h2 := hR.1
  rw [enc3_length] at h2
  obtain rfl : N = 1 := by omega
  exact ⟨R, C, rfl, hb⟩

set_option maxRecDepth 100000 in
set_option maxHeartbeats 4000000 in
theorem awake12_any (w : World) (hv : CV w) : Calls Tryz.prog 5 #[] w fun e w' => e = .returned (.bool true) ∧ Below w.heap.size w w' := by
  have HV := Lib.hid hv
  clear hv
  go_enter Tryz.func5, Tryz.ntmps5
  go_wp2_with fail
  refine (bParse1 w HV.out).mono ?_
  rintro e w1 ⟨A, n, c, q, K, k, kc, x, rfl, hq, hx, hC, hM, hb1⟩
  have HQ := Lib.hid (And.intro hq (And.intro hx hM))
  have A1 := Lib.hid (CA.new hC)
  have B1 := Lib.hid (hb1.alloc hb1.size (.cells #[.string ⟨#[65]⟩, .slice A n c, .slice K k kc] 25))
  clear hq hx hC hM hb1
  go_wp2_with fail
  refine (bParseE ⟨#[66, 69, 71, 73, 78, 58, 65, 10, 69, 78, 68, 58, 66]⟩ 31 (by decide) ex12_2 _ (HV.out.step B1.out)).mono ?_
  rintro e w2 ⟨nm2, A2, n2, c2, K2, k2, kc2, rfl, hb2⟩
  have hb2 := hb2.alloc hb2.size (.cells #[.string nm2, .slice A2 n2 c2, .slice K2 k2 kc2] 25)
  have A3 := Lib.hid (A1.out.step hb2)
  have B3 := Lib.hid (bstep B1.out hb2)
  clear hb2 A1 B1
  go_wp2_with fail
  refine (bParseE ⟨#[66, 69, 71, 73, 78, 58, 65]⟩ 11 (by decide) ex12_3 _ (HV.out.step B3.out)).mono ?_
  rintro e w3 ⟨nm3, A3', n3, c3, K3, k3, kc3, rfl, hb3⟩
  have hb3 := hb3.alloc hb3.size (.cells #[.string nm3, .slice A3' n3 c3, .slice K3 k3 kc3] 25)
  have A4 := Lib.hid (A3.out.step hb3)
  have B4 := Lib.hid (bstep B3.out hb3)
  clear hb3 A3 B3
  go_wp2_with fail
  refine (bParseE ⟨#[88, 58, 49]⟩ 10 (by decide) ex12_4 _ (HV.out.step B4.out)).mono ?_
  rintro e w4 ⟨nm4, A4', n4, c4, K4, k4, kc4, rfl, hb4⟩
  have hb4 := hb4.alloc hb4.size (.cells #[.string nm4, .slice A4' n4 c4, .slice K4 k4 kc4] 25)
  have A5 := Lib.hid (A4.out.step hb4)
  have B5 := Lib.hid (bstep B4.out hb4)
  clear hb4 A4 B4
  obtain ⟨x0, x1, x2⟩ := A5.out.bx.cells
  go_wp2_with fail
  refine (bProp1 A n c q K k kc x _ HQ.out.1 HQ.out.2.2 A5.out.ok (HV.out.step B5.out)).mono ?_
  rintro e w5 ⟨nm5, L5, m5, mc5, rfl, hb5⟩
  have P6 := Lib.hid (P3.new w5 nm5 ⟨#[49]⟩ L5 m5 mc5)
  have hb5 := hb5.alloc hb5.size (.cells #[.string nm5, .slice L5 m5 mc5, .string ⟨#[49]⟩] 30)
  have A6 := Lib.hid (A5.out.step hb5)
  have B6 := Lib.hid (bstep B5.out hb5)
  clear hb5 A5 B5 x0 x1 x2
  obtain ⟨x0, x1, x2⟩ := A6.out.bx.cells
  obtain ⟨p0, p1, p2⟩ := P6.out.cells
  go_wp2_with fail
  refine (bComps1 A n c q K k kc x _ HQ.out.2.1 HQ.out.2.2 A6.out.ok (HV.out.step B6.out)).mono ?_
  rintro e w6 ⟨R6, C6, rfl, hb6⟩
  have A7 := Lib.hid (A6.out.step hb6)
  have B7 := Lib.hid (bstep B6.out hb6)
  clear hb6 A6 B6 x0 x1 x2 p0 p1 p2 P6
  obtain ⟨x0, x1, x2⟩ := A7.out.bx.cells
  have cp := cPrint_any (.mk ⟨#[65]⟩ A n c [q] K k kc [x]) w6 HQ.out.2.2 A7.out.ok (HV.out.step B7.out)
  rw [show compOf (.mk ⟨#[65]⟩ A n c [q] K k kc [x]) = exC from by rw [compOf_mk, List.map_singleton, List.map_singleton, HQ.out.1, HQ.out.2.1]; rfl, ex12_p] at cp
  go_wp2_with fail
  refine cp.mono ?_
  rintro e w7 ⟨rfl, hb7⟩
  go_wp2
  go_ret
  exact ⟨rfl, bstep B7.out hb7⟩
end Go.Proofs.YtlfhhnjdfpgadaaGreatDoor

/-
  What every statement of layer 12 says of its arguments and of the world: what the listed variables hold; a world that fits.
-/
namespace Go.Proofs.YtlfhhnjdfpgadaaGreatDoor
open Go.ChangeShapes Go.WideShapes Go.ChangeAt Go.RowKit Go.ChangeMaps

theorem i64_in {x : Int} (h : (Lit.int .i64 x).wf = true) : -9223372036854775808 ≤ x ∧ x < 9223372036854775808 := by
  have h1 : IntKind.i64.min = -9223372036854775808 := rfl
  have h2 : IntKind.i64.max = 9223372036854775807 := rfl
  simp only [Lit.wf, Bool.and_eq_true, decide_eq_true_eq] at h
  omega
theorem gForms : Tryz.prog.globalNamed "almanac/text.forms" = some 0 := by kernel_rfl
theorem gFormsT : (Tryz.prog.globals[0]?).map (·.type) = some 100 := by kernel_rfl
theorem cellsForm : Tryz.prog.cellsOf 99 = 4 := by kernel_rfl
theorem cellsU8 : Tryz.prog.cellsOf 5 = 1 := by kernel_rfl
theorem cellsI32 : Tryz.prog.cellsOf 21 = 1 := by kernel_rfl
theorem undForms : Tryz.prog.underlying 100 = some (.array 4 99) := by kernel_rfl
theorem at_take {cs : List Value} {k : Nat} {v : Value} (h : (cs.drop k).take 1 = [v]) : cs[k]? = some v := by
  have := congrArg (·[0]?) h
  simpa [List.getElem?_take, List.getElem?_drop] using this
/-- One form of the table, as the program holds it. -/
theorem form_cells {H : Type} {enc : TypeId × Value → H} {w : World} {base : Nat} {sp : Nat → Bool} {held : Bool} {fuel : Nat} {cs : List Value} {a b c d : Int} {p : List MemPlace}
    (h : DataW.trod enc Tryz.prog w base sp held fuel 99 cs = some (.agg [.lit (.int .u8 a), .lit (.int .u8 b), .lit (.int .i32 c), .lit (.int .i32 d)], p)) :
    cs[0]? = some (.int .u8 a) ∧ cs[1]? = some (.int .u8 b) ∧ cs[2]? = some (.int .i32 c) ∧ cs[3]? = some (.int .i32 d) := by
  obtain ⟨xs, n, rfl, hx, hl, hxl, hall⟩ := DataW.trod_struct Tryz.underlying99 h
  have hx4 : xs.map (·.1) = [.lit (.int .u8 a), .lit (.int .u8 b), .lit (.int .i32 c), .lit (.int .i32 d)] := by
    have := congrArg Prod.fst hx
    simpa using this.symm
  obtain ⟨x0, x1, x2, x3, rfl⟩ : ∃ x0 x1 x2 x3, xs = [x0, x1, x2, x3] := by
    match xs, hx4 with
    | [x0, x1, x2, x3], _ => exact ⟨x0, x1, x2, x3, rfl⟩
  simp only [List.map_cons, List.map_nil, List.cons.injEq, and_true] at hx4
  obtain ⟨e0, e1, e2, e3⟩ := hx4
  have f0 := hall 0 _ rfl
  have f1 := hall 1 _ rfl
  have f2 := hall 2 _ rfl
  have f3 := hall 3 _ rfl
  change DataW.trod _ _ _ _ _ _ _ 5 ((cs.drop 0).take (Tryz.prog.cellsOf 5)) = some x0 at f0
  change DataW.trod _ _ _ _ _ _ _ 5 ((cs.drop 1).take (Tryz.prog.cellsOf 5)) = some x1 at f1
  change DataW.trod _ _ _ _ _ _ _ 21 ((cs.drop 2).take (Tryz.prog.cellsOf 21)) = some x2 at f2
  change DataW.trod _ _ _ _ _ _ _ 21 ((cs.drop 3).take (Tryz.prog.cellsOf 21)) = some x3 at f3
  rw [cellsU8] at f0 f1
  rw [cellsI32] at f2 f3
  refine ⟨?_, ?_, ?_, ?_⟩
  · obtain ⟨z, hz, hx', _⟩ := DataW.trod_int Tryz.underlying5 f0
    rw [hx'] at e0; cases e0; exact at_take hz
  · obtain ⟨z, hz, hx', _⟩ := DataW.trod_int Tryz.underlying5 f1
    rw [hx'] at e1; cases e1; exact at_take hz
  · obtain ⟨z, hz, hx', _⟩ := DataW.trod_int Tryz.underlying21 f2
    rw [hx'] at e2; cases e2; exact at_take hz
  · obtain ⟨z, hz, hx', _⟩ := DataW.trod_int Tryz.underlying21 f3
    rw [hx'] at e3; cases e3; exact at_take hz
theorem four_at {cs : List Value} {i : Nat} {v0 v1 v2 v3 : Value} (h : ((cs.drop (i * 4)).take 4)[0]? = some v0 ∧ ((cs.drop (i * 4)).take 4)[1]? = some v1 ∧ ((cs.drop (i * 4)).take 4)[2]? = some v2 ∧ ((cs.drop (i * 4)).take 4)[3]? = some v3) :
    cs[i * 4 + 0]? = some v0 ∧ cs[i * 4 + 1]? = some v1 ∧ cs[i * 4 + 2]? = some v2 ∧ cs[i * 4 + 3]? = some v3 := by
  simpa [List.getElem?_take, List.getElem?_drop] using h
/-- What reads as the table of forms holds it. -/
theorem forms_of {W : World} (h : Lib.VarReads Tryz.prog W "almanac/text.forms" Rows.laid_almanac_text_forms) : Forms W := by
  obtain ⟨g, t, cs, fuel, p, k1, k2, k3, k4⟩ := h
  obtain rfl := Option.some.inj (gForms.symm.trans k1)
  obtain rfl := Option.some.inj (gFormsT.symm.trans k2)
  have hc := World.var?_cell gForms k3
  have el : ∀ i, i < 4 → ∃ fuel' d q, ([.agg [.lit (.int .u8 0), .lit (.int .u8 127), .lit (.int .i32 0), .lit (.int .i32 127)], .agg [.lit (.int .u8 192), .lit (.int .u8 31), .lit (.int .i32 128), .lit (.int .i32 2047)], .agg [.lit (.int .u8 224), .lit (.int .u8 15), .lit (.int .i32 2048), .lit (.int .i32 65535)], .agg [.lit (.int .u8 240), .lit (.int .u8 7), .lit (.int .i32 65536), .lit (.int .i32 1114111)]] : List (DataW Unit))[i]? = some d ∧
      DataW.trod (fun _ => ()) Tryz.prog W 0 (fun _ => true) false fuel' 99 ((cs.toList.drop (i * Tryz.prog.cellsOf 99)).take (Tryz.prog.cellsOf 99)) = some (d, q) := fun i hi => Go.Lib.array_elem undForms k4 i hi
  rw [cellsForm] at el
  obtain ⟨_, _, _, a1, a2⟩ := el 0 (by omega)
  obtain ⟨_, _, _, b1, b2⟩ := el 1 (by omega)
  obtain ⟨_, _, _, c1, c2⟩ := el 2 (by omega)
  obtain ⟨_, _, _, d1, d2⟩ := el 3 (by omega)
  simp only [List.getElem?_cons_zero, List.getElem?_cons_succ, Option.some.injEq] at a1 b1 c1 d1
  subst a1 b1 c1 d1
  obtain ⟨a0, a1, a2, a3⟩ := four_at (form_cells a2)
  obtain ⟨b0, b1, b2, b3⟩ := four_at (form_cells b2)
  obtain ⟨c0, c1, c2, c3⟩ := four_at (form_cells c2)
  obtain ⟨d0, d1, d2, d3⟩ := four_at (form_cells d2)
  have hx : ∀ i v, cs.toList[i]? = some v → W.cell? ⟨0, i, none⟩ = some v := fun i v h => by rw [hc i]; simpa using h
  exact ⟨hx 0 _ a0, hx 1 _ a1, hx 2 _ a2, hx 3 _ a3, hx 4 _ b0, hx 5 _ b1, hx 6 _ b2, hx 7 _ b3, hx 8 _ c0, hx 9 _ c1, hx 10 _ c2, hx 11 _ c3, hx 12 _ d0, hx 13 _ d1, hx 14 _ d2, hx 15 _ d3⟩
/-- The library's own variable holds some number: out of the world's shape. -/
theorem maxn_of {W : World} (h : W.ShapedOpen Tryz.prog) : MaxLn W :=
  cell_of_shapedOpen_int (zero := #[.int .i64 0]) (t := 3) (k := .i64) h (of_decide_eq_true (by kernel_rfl)) (by kernel_rfl) rfl (by kernel_rfl) (by kernel_rfl) Tryz.underlying3
/-- What the rows list. -/
abbrev laidL : List (String × DataW Unit) := Rows.compWritesUptoRow.laid
theorem cv_of {W : World} (h : laidMetH Tryz.prog laidL W) (hs : W.ShapedOpen Tryz.prog) : CV W := by
  rw [MakeChecks.laidMetH_plain _ _ _ (by kernel_rfl)] at h
  exact ⟨forms_of (Lib.laidMet.reads h (n := "almanac/text.forms") (d := Rows.laid_almanac_text_forms) (by simp [laidL, Rows.compWritesUptoRow])), maxn_of hs⟩
/-- A world for the witness: the listed variables laid. -/
noncomputable def laidWorld (os : Os) : World := World.laidAll Tryz.prog os laidL
theorem laid_met (os : Os) (args : Array Value) : laidMet Tryz.prog laidL ((laidWorld os).forCall (fun _ _ => 0) ⟨#[], args, []⟩).memory :=
  laidMet_laidAll _ (by kernel_rfl) (by kernel_rfl)
end Go.Proofs.YtlfhhnjdfpgadaaGreatDoor
