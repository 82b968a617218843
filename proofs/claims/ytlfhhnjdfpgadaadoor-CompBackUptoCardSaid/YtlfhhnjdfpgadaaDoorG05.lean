/-
  Properties, the same one by one.
-/
import Derived.Test.YtlfhhnjdfpgadaaDoorG04
import Derived.Lib.IndexMore
namespace Go.Proofs.YtlfhhnjdfpgadaaDoor
open Go.RowKit

def proQ (q : QR) : Pro := proOf q.name q.ps q.vl
theorem rows_ne {α β : Type} [DecidableEq β] {f : α → β} {l l2 : List α} (h : l.length ≠ l2.length ∨ ∃ (i : Nat) (r q : α), l[i]? = some r ∧ l2[i]? = some q ∧ f r ≠ f q) : decide (l.map f = l2.map f) = false := by
  refine decide_eq_false fun e => ?_
  rcases h with h | ⟨i, r, q, h1, h2, h3⟩
  · have := congrArg List.length e
    simp only [List.length_map] at this
    exact h this
  · have := congrArg (·[i]?) e
    simp only [List.getElem?_map, h1, h2, Option.map_some, Option.some.injEq] at this
    exact h3 this
theorem map_ext {α β : Type} {f : α → β} {l l2 : List α} (h3 : l.length = l2.length) (h : ∀ (i : Nat) (r q : α), l[i]? = some r → l2[i]? = some q → f r = f q) : l.map f = l2.map f := by
  refine List.ext_getElem? fun i => ?_
  rw [List.getElem?_map, List.getElem?_map]
  by_cases hi : i < l.length
  · rw [List.getElem?_eq_getElem hi, List.getElem?_eq_getElem (by omega), Option.map_some, Option.map_some, h i _ _ (List.getElem?_eq_getElem hi) (List.getElem?_eq_getElem (by omega))]
  · rw [List.getElem?_eq_none (by omega), List.getElem?_eq_none (by omega)]

set_option maxRecDepth 100000 in
set_option maxHeartbeats 4000000 in
theorem rows_any (A A' : Option Addr) (n c m c' : Nat) (qs qs' : List QR) (w : World) (hR : Reads w w.heap.size 3 A n (enc3 fQ qs)) (hQ : ∀ q ∈ qs, QOk w w.heap.size q) (hR' : Reads w w.heap.size 3 A' m (enc3 fQ qs')) (hQ' : ∀ q ∈ qs', QOk w w.heap.size q)
    (hn : n ≤ 9223372036854775807) (hm : m ≤ 9223372036854775807) :
    Calls Tryd.prog 21 #[.slice A n c, .slice A' m c'] w fun e w' => e = .returned (.bool (decide (qs.map proQ = qs'.map proQ))) ∧ Below w.heap.size w w' := by
  have HL := Lib.hid (And.intro hR.len3 hR'.len3)
  have HJ := Lib.hid (And.intro (And.intro hR hQ) (And.intro (And.intro hR' hQ') (Below.refl w.heap.size w)))
  clear hR hQ hR' hQ'
  have hmx : Tryd.prog.follows .mixedOrders = true := by kernel_rfl
  obtain ⟨rb, hrb⟩ : ∃ rb, decide (qs.map proQ = qs'.map proQ) = rb := ⟨_, rfl⟩
  rw [hrb]
  have HRB := Lib.hid hrb
  clear hrb
  by_cases h3 : n = m
  · subst h3
    have ht : ((n : Int) != (n : Int)) = false := by simp
    go_enter Tryd.func21, Tryd.ntmps21
    go_wp2
    clear ht
    go_loopw [5] (fun s5 wr => ∃ i : Nat, s5 = .int .i64 i ∧ i ≤ n ∧ Hid ((Reads wr wr.heap.size 3 A n (enc3 fQ qs) ∧ ∀ q ∈ qs, QOk wr wr.heap.size q) ∧ (Reads wr wr.heap.size 3 A' n (enc3 fQ qs') ∧ ∀ q ∈ qs', QOk wr wr.heap.size q) ∧ Below w.heap.size w wr) ∧ Hid (∀ (k : Nat) (r q : QR), k < i → qs[k]? = some r → qs'[k]? = some q → proQ r = proQ q)) (fun s5 _ => n - (intOf s5).toNat)
    case atStart => exact ⟨0, rfl, Nat.zero_le _, HJ, Lib.hid fun k r q hk => absurd hk (Nat.not_lt_zero _)⟩
    case round =>
      clear HJ
      obtain ⟨i, rfl, hi, HJ, J⟩ := hrel
      by_cases hlt : i < n
      · obtain ⟨r, hr⟩ : ∃ r, qs[i]? = some r := ⟨qs[i]'(by have := HL.out.1; omega), List.getElem?_eq_getElem (by have := HL.out.1; omega)⟩
        obtain ⟨q, hq⟩ : ∃ q, qs'[i]? = some q := ⟨qs'[i]'(by have := HL.out.2; omega), List.getElem?_eq_getElem (by have := HL.out.2; omega)⟩
        obtain ⟨b, o, hAe, _, p0, p1, p2⟩ := HJ.out.1.1.tri hr
        obtain ⟨b2, o2, hAe2, _, q0, q1, q2⟩ := HJ.out.2.1.1.tri hq
        have HP1 := Lib.hid (HJ.out.1.2 r (List.mem_of_getElem? hr))
        have HP2 := Lib.hid (HJ.out.2.1.2 q (List.mem_of_getElem? hq))
        have HR := Lib.hid hr
        have HQ := Lib.hid hq
        have P0 := Lib.hid (And.intro p0 (And.intro p1 p2))
        have Q0 := Lib.hid (And.intro q0 (And.intro q1 q2))
        clear hr hq
        subst hAe hAe2
        go_wp2_with fail
        obtain ⟨sb, hsb⟩ : ∃ sb, decide (proQ r = proQ q) = sb := ⟨_, rfl⟩
        have HSB := Lib.hid hsb
        have cs := fun (w5 : World) (hw5 : Below wr.heap.size wr w5) => refSame11_any r.name r.vl q.name q.vl r.L q.L r.n r.c q.n q.c r.ps q.ps w5 (HP1.out.step hw5).rd (HP1.out.step hw5).vs (HP1.out.step hw5).le (HP1.out.step hw5).cap (HP2.out.step hw5).rd (HP2.out.step hw5).vs (HP2.out.step hw5).le (HP2.out.step hw5).cap
        have hsb2 : decide (proOf r.name r.ps r.vl = proOf q.name q.ps q.vl) = sb := hsb
        simp only [hsb2] at cs
        have CS := Lib.hid cs
        clear cs hsb hsb2 p0 p1 p2 q0 q1 q2
        refine region_heldL (C := fun w5 => Below wr.heap.size wr w5) hmx (by kernel_rfl) ((Below.refl _ _).drew) ?_
        repeat (first
          | go_big_quiet_skip
          | (go_big_quiet_want; go_big_quiet_op; first
              | go_big_quiet_on
              | (refine ⟨_, fun _ _ => rfl, ?_⟩; go_big_quiet_on)
              | (apply Exists.intro
                 refine ⟨fun w5 hw5 => ?_, ?_⟩
                 · have z0 := cell_keep P0.out.1 hw5
                   have z1 := cell_keep P0.out.2.1 hw5
                   have z2 := cell_keep P0.out.2.2 hw5
                   simp only [fQ] at z0 z1 z2
                   simp only [z0, z1, z2, Result.andThen_ok]
                   first | exact ⟨trivial, rfl⟩ | exact ⟨rfl, rfl⟩
                 go_big_quiet_on)
              | (apply Exists.intro
                 refine ⟨fun w5 hw5 => ?_, ?_⟩
                 · have z0 := cell_keep Q0.out.1 hw5
                   have z1 := cell_keep Q0.out.2.1 hw5
                   have z2 := cell_keep Q0.out.2.2 hw5
                   simp only [fQ] at z0 z1 z2
                   simp only [z0, z1, z2, Result.andThen_ok]
                   first | exact ⟨trivial, rfl⟩ | exact ⟨rfl, rfl⟩
                 go_big_quiet_on)
              | (apply Exists.intro
                 refine ⟨fun w5 hw5 => ?_, ?_⟩
                 · (with_reducible refine (CS.out w5 hw5).mono ?_); rintro e w6 ⟨rfl, hbx⟩; exact ⟨rfl, bstep hw5 hbx⟩
                 go_big_quiet_on)))
        refine wpQuiet_nil ?_
        intro w7 hw7
        cases sb
        · have E : Hid (rb = false) := Lib.hid (HRB.out.symm.trans (rows_ne (.inr ⟨i, r, q, HR.out, HQ.out, of_decide_eq_false HSB.out⟩)))
          go_wp2
          go_ret
          exact ⟨by rw [E.out]; rfl, bstep HJ.out.2.2 hw7⟩
        · have J2 : Hid (∀ (k : Nat) (r q : QR), k < i + 1 → qs[k]? = some r → qs'[k]? = some q → proQ r = proQ q) := Lib.hid fun k r' q' hk h1 h2 => by
            by_cases e : k = i
            · subst e
              have a1 := Option.some.inj (HR.out.symm.trans h1)
              have a2 := Option.some.inj (HQ.out.symm.trans h2)
              subst a1 a2
              exact of_decide_eq_true HSB.out
            · exact J.out k r' q' (by omega) h1 h2
          have HJ2 := Lib.hid (And.intro (And.intro (HJ.out.1.1.step hw7) (fun q hq => (HJ.out.1.2 q hq).step hw7)) (And.intro (And.intro (HJ.out.2.1.1.step hw7) (fun q hq => (HJ.out.2.1.2 q hq).step hw7)) (bstep HJ.out.2.2 hw7)))
          clear hw7 HJ
          go_wp2
          go_round
          case rel => exact ⟨i + 1, by go_num, by omega, HJ2, J2⟩
          case measure => simp [intOf]; omega
      · obtain rfl : i = n := by omega
        have E : Hid (rb = true) := Lib.hid (HRB.out.symm.trans (decide_eq_true (map_ext (by rw [HL.out.1, HL.out.2]) (fun k r q h1 h2 => J.out k r q (by have := (List.getElem?_eq_some_iff.1 h1).1; have := HL.out.1; omega) h1 h2))))
        go_wp2
        go_ret
        exact ⟨by rw [E.out]; rfl, HJ.out.2.2⟩
  · have E : Hid (rb = false) := Lib.hid (HRB.out.symm.trans (rows_ne (.inl (by rw [HL.out.1, HL.out.2]; exact h3))))
    have ht : ((n : Int) != (m : Int)) = true := by simp only [bne_iff_ne, ne_eq]; omega
    clear h3
    go_enter Tryd.func21, Tryd.ntmps21
    go_wp2
    go_ret
    exact ⟨by rw [E.out]; rfl, Below.refl _ _⟩

end Go.Proofs.YtlfhhnjdfpgadaaDoor

/-
  Whether two components are the same.
-/
namespace Go.Proofs.YtlfhhnjdfpgadaaDoor
open Go.RowKit

/-- A component as plain texts. -/
inductive CM where
  | mk (name : List UInt8) (props : List Pro) (comps : List CM) : CM
mutual
def compOf : CR → CM
  | .mk nm _ _ _ qs _ _ _ cs => .mk nm.data.toList (qs.map proQ) (compsOf cs)
def compsOf : List CR → List CM
  | [] => []
  | c :: cs => compOf c :: compsOf cs
end
theorem compsOf_map : ∀ l : List CR, compsOf l = l.map compOf
  | [] => by simp [compsOf]
  | c :: l => by simp [compsOf, compsOf_map l]
theorem compOf_mk (nm : ByteArray) (A : Option Addr) (n c : Nat) (qs : List QR) (K : Option Addr) (k kc : Nat) (cs : List CR) : compOf (.mk nm A n c qs K k kc cs) = .mk nm.data.toList (qs.map proQ) (cs.map compOf) := by rw [compOf, compsOf_map]
noncomputable def eqC (a b : CM) : Bool := @decide (a = b) (Classical.propDecidable _)
theorem eqC_true {a b : CM} (h : a = b) : eqC a b = true := by unfold eqC; exact @decide_eq_true _ (Classical.propDecidable _) h
theorem eqC_false {a b : CM} (h : a ≠ b) : eqC a b = false := by unfold eqC; exact @decide_eq_false _ (Classical.propDecidable _) h
theorem eqC_iff {a b : CM} : eqC a b = true ↔ a = b := by unfold eqC; exact @decide_eq_true_iff _ (Classical.propDecidable _)
theorem of_eqC_false {a b : CM} (h : eqC a b = false) : a ≠ b := fun e => by rw [eqC_true e] at h; cases h
theorem comp_ne {a a' : List UInt8} {b b' : List Pro} {l l2 : List CR} (h : a ≠ a' ∨ b ≠ b' ∨ l.length ≠ l2.length ∨ ∃ (i : Nat) (r q : CR), l[i]? = some r ∧ l2[i]? = some q ∧ compOf r ≠ compOf q) : eqC (.mk a b (l.map compOf)) (.mk a' b' (l2.map compOf)) = false := by
  refine eqC_false fun e => ?_
  rw [CM.mk.injEq] at e
  rcases h with h | h | h | ⟨i, r, q, h1, h2, h3⟩
  · exact h e.1
  · exact h e.2.1
  · have := congrArg List.length e.2.2
    simp only [List.length_map] at this
    exact h this
  · have := congrArg (·[i]?) e.2.2
    simp only [List.getElem?_map, h1, h2, Option.map_some, Option.some.injEq] at this
    exact h3 this

set_option maxRecDepth 100000 in
set_option maxHeartbeats 4000000 in
theorem refSame12_any : ∀ (N : Nat) (r r' : CR) (w : World), csize r ≤ N → COk w w.heap.size r → COk w w.heap.size r' →
    Calls Tryd.prog 9 #[.agg #[(fC r).1, (fC r).2.1, (fC r).2.2], .agg #[(fC r').1, (fC r').2.1, (fC r').2.2]] w fun e w' => e = .returned (.bool (eqC (compOf r) (compOf r'))) ∧ Below w.heap.size w w'
  | 0, .mk nm A n c qs K k kc cs, _, w, hN, _, _ => absurd hN (by simp [csize])
  | N + 1, .mk nm A n c qs K k kc cs, .mk nm' A' n' c' qs' K' k' kc' cs', w, hN, hC, hC' => by
    have hb1 : Below w.heap.size w (w.alloc (.cells #[.string nm, .slice A n c, .slice K k kc] 25)) := (Below.refl _ w).alloc (Nat.le_refl _) _
    have hb2 := (Below.refl _ (w.alloc (.cells #[.string nm, .slice A n c, .slice K k kc] 25))).alloc (Nat.le_refl _) (.cells #[.string nm', .slice A' n' c', .slice K' k' kc'] 25)
    have HA := Lib.hid ((CA.new hC).step hb2)
    have HA2 := Lib.hid (CA.new (hC'.step hb1))
    have HB := Lib.hid (bstep hb1 hb2)
    have HN : Hid (csizes cs ≤ N) := Lib.hid (by rw [csize] at hN; omega)
    have IH := Lib.hid (refSame12_any N)
    have hn : n ≤ 9223372036854775807 := by have := hC.nle; unfold maxLen at this; omega
    have hn' : n' ≤ 9223372036854775807 := by have := hC'.nle; unfold maxLen at this; omega
    have hk : k ≤ 9223372036854775807 := by have := hC.kle; unfold maxLen at this; omega
    have hk' : k' ≤ 9223372036854775807 := by have := hC'.kle; unfold maxLen at this; omega
    have HLC := Lib.hid (And.intro hC.rc.len3 hC'.rc.len3)
    clear hC hC' hN hb1 hb2
    have hmx : Tryd.prog.follows .mixedOrders = true := by kernel_rfl
    rw [compOf_mk, compOf_mk]
    obtain ⟨rb, hrb⟩ : ∃ rb, eqC (.mk nm.data.toList (qs.map proQ) (cs.map compOf)) (.mk nm'.data.toList (qs'.map proQ) (cs'.map compOf)) = rb := ⟨_, rfl⟩
    rw [hrb]
    have HRB := Lib.hid hrb
    clear hrb
    show Calls Tryd.prog 9 #[.agg #[.string nm, .slice A n c, .slice K k kc], .agg #[.string nm', .slice A' n' c', .slice K' k' kc']] w _
    have e1 := strNe nm nm'
    have f1 := strEqL nm nm'
    go_enter Tryd.func9, Tryd.ntmps9
    generalize hW : (w.alloc (.cells #[.string nm, .slice A n c, .slice K k kc] 25)).alloc (.cells #[.string nm', .slice A' n' c', .slice K' k' kc'] 25) = w1 at HA HA2 HB
    have hsz : (w.alloc (.cells #[.string nm, .slice A n c, .slice K k kc] 25)).heap.size = w.heap.size + 1 := by simp
    rw [hsz] at HA2
    obtain ⟨x0, x1, x2⟩ := HA.out.bx.cells
    obtain ⟨y0, y1, y2⟩ := HA2.out.bx.cells
    by_cases h1 : nm.data.toList = nm'.data.toList
    · rw [decide_eq_true h1, Bool.not_true] at e1
      rw [decide_eq_true h1] at f1
      have H1 := Lib.hid h1
      clear h1
      have cr := rows_any A A' n c n' c' qs qs' _ HA.out.ok.rq HA.out.ok.vq HA2.out.ok.rq HA2.out.ok.vq hn hn'
      obtain ⟨sb, hsb⟩ : ∃ sb, decide (qs.map proQ = qs'.map proQ) = sb := ⟨_, rfl⟩
      rw [hsb] at cr
      have HSB := Lib.hid hsb
      clear hsb
      go_wp2_with fail
      refine cr.mono ?_
      rintro e w2 ⟨rfl, hb2⟩
      have HJ := Lib.hid (And.intro (HA.out.step hb2) (And.intro (HA2.out.step hb2) (bstep HB.out hb2)))
      clear cr hb2 HA HA2 HB hW hsz x0 x1 x2 y0 y1 y2
      obtain ⟨x0, x1, x2⟩ := HJ.out.1.bx.cells
      obtain ⟨y0, y1, y2⟩ := HJ.out.2.1.bx.cells
      cases sb
      · have E : Hid (rb = false) := Lib.hid (HRB.out.symm.trans (comp_ne (.inr (.inl (of_decide_eq_false HSB.out)))))
        go_wp2
        go_ret
        exact ⟨by rw [E.out]; rfl, HJ.out.2.2⟩
      · by_cases h3 : k = k'
        · subst h3
          have ht : ((k : Int) != (k : Int)) = false := by simp
          go_wp2
          clear ht x0 x1 x2 y0 y1 y2 hn hn' hk'
          go_loopw [5] (fun s5 wr => ∃ i : Nat, s5 = .int .i64 i ∧ i ≤ k ∧ Hid (CA wr w.heap.size nm A n c qs K k kc cs ∧ CA wr (w.heap.size + 1) nm' A' n' c' qs' K' k kc' cs' ∧ Below w.heap.size w wr) ∧ Hid (∀ (j : Nat) (r q : CR), j < i → cs[j]? = some r → cs'[j]? = some q → compOf r = compOf q)) (fun s5 _ => k - (intOf s5).toNat)
          case atStart => exact ⟨0, rfl, Nat.zero_le _, HJ, Lib.hid fun j r q hk => absurd hk (Nat.not_lt_zero _)⟩
          case round =>
            clear HJ
            obtain ⟨i, rfl, hi, HJ, J⟩ := hrel
            obtain ⟨x0, x1, x2⟩ := HJ.out.1.bx.cells
            obtain ⟨y0, y1, y2⟩ := HJ.out.2.1.bx.cells
            by_cases hlt : i < k
            · obtain ⟨r, hr⟩ : ∃ r, cs[i]? = some r := ⟨cs[i]'(by have := HLC.out.1; omega), List.getElem?_eq_getElem (by have := HLC.out.1; omega)⟩
              obtain ⟨q, hq⟩ : ∃ q, cs'[i]? = some q := ⟨cs'[i]'(by have := HLC.out.2; omega), List.getElem?_eq_getElem (by have := HLC.out.2; omega)⟩
              obtain ⟨b, o, hKe, p0, p1, p2⟩ := HJ.out.1.atC hr
              obtain ⟨b2, o2, hKe2, q0, q1, q2⟩ := HJ.out.2.1.atC hq
              have hm := List.mem_of_getElem? hr
              have HP := Lib.hid (And.intro (Nat.le_trans (csize_mem hm) HN.out) (And.intro (HJ.out.1.ok.vc r hm) (HJ.out.2.1.ok.vc q (List.mem_of_getElem? hq))))
              have HR := Lib.hid hr
              have HQ := Lib.hid hq
              have P0 := Lib.hid (And.intro p0 (And.intro p1 p2))
              have Q0 := Lib.hid (And.intro q0 (And.intro q1 q2))
              have X2 := Lib.hid x2
              have Y2 := Lib.hid y2
              have HKE := Lib.hid hKe
              have HKE2 := Lib.hid hKe2
              obtain ⟨sc, hsc⟩ : ∃ sc, eqC (compOf r) (compOf q) = sc := ⟨_, rfl⟩
              have HSC := Lib.hid hsc
              have ci := fun (w5 : World) (hw5 : Below wr.heap.size wr w5) => IH.out r q w5 HP.out.1 (HP.out.2.1.step hw5) (HP.out.2.2.step hw5)
              simp only [hsc] at ci
              have CI := Lib.hid ci
              clear ci hsc hm hr hq p0 p1 p2 q0 q1 q2 hKe hKe2
              go_wp2_with fail
              refine region_heldL (C := fun w5 => Below wr.heap.size wr w5) hmx (by kernel_rfl) ((Below.refl _ _).drew) ?_
              repeat (first
                | go_big_quiet_skip
                | (go_big_quiet_want; go_big_quiet_op; first
                    | go_big_quiet_on
                    | (refine ⟨_, fun _ _ => rfl, ?_⟩; go_big_quiet_on)
                    | (apply Exists.intro
                       refine ⟨fun w5 hw5 => ?_, ?_⟩
                       · have z2 := cell_keep X2.out hw5
                         rw [HKE.out] at z2
                         simp only [z2, Result.andThen_ok]
                         first | exact ⟨trivial, rfl⟩ | exact ⟨rfl, rfl⟩
                       go_big_quiet_on)
                    | (apply Exists.intro
                       refine ⟨fun w5 hw5 => ?_, ?_⟩
                       · have z2 := cell_keep Y2.out hw5
                         rw [HKE2.out] at z2
                         simp only [z2, Result.andThen_ok]
                         first | exact ⟨trivial, rfl⟩ | exact ⟨rfl, rfl⟩
                       go_big_quiet_on)
                    | (apply Exists.intro
                       refine ⟨fun w5 hw5 => ?_, ?_⟩
                       · have z0 := cell_keep P0.out.1 hw5
                         have z1 := cell_keep P0.out.2.1 hw5
                         have z2 := cell_keep P0.out.2.2 hw5
                         simp only [z0, z1, z2, Result.andThen_ok]
                         first | exact ⟨trivial, rfl⟩ | exact ⟨rfl, rfl⟩
                       go_big_quiet_on)
                    | (apply Exists.intro
                       refine ⟨fun w5 hw5 => ?_, ?_⟩
                       · have z0 := cell_keep Q0.out.1 hw5
                         have z1 := cell_keep Q0.out.2.1 hw5
                         have z2 := cell_keep Q0.out.2.2 hw5
                         simp only [z0, z1, z2, Result.andThen_ok]
                         first | exact ⟨trivial, rfl⟩ | exact ⟨rfl, rfl⟩
                       go_big_quiet_on)
                    | (apply Exists.intro
                       refine ⟨fun w5 hw5 => ?_, ?_⟩
                       · (with_reducible refine (CI.out w5 hw5).mono ?_); rintro e w6 ⟨rfl, hbx⟩; exact ⟨rfl, bstep hw5 hbx⟩
                       go_big_quiet_on)))
              refine wpQuiet_nil ?_
              intro w7 hw7
              cases sc
              · have E : Hid (rb = false) := Lib.hid (HRB.out.symm.trans (comp_ne (.inr (.inr (.inr ⟨i, r, q, HR.out, HQ.out, of_eqC_false HSC.out⟩)))))
                go_wp2
                go_ret
                exact ⟨by rw [E.out]; rfl, bstep HJ.out.2.2 hw7⟩
              · have J2 : Hid (∀ (j : Nat) (r q : CR), j < i + 1 → cs[j]? = some r → cs'[j]? = some q → compOf r = compOf q) := Lib.hid fun j r' q' hj h1 h2 => by
                  by_cases e : j = i
                  · subst e
                    have a1 := Option.some.inj (HR.out.symm.trans h1)
                    have a2 := Option.some.inj (HQ.out.symm.trans h2)
                    subst a1 a2
                    exact eqC_iff.1 HSC.out
                  · exact J.out j r' q' (by omega) h1 h2
                have HJ2 := Lib.hid (And.intro (HJ.out.1.step hw7) (And.intro (HJ.out.2.1.step hw7) (bstep HJ.out.2.2 hw7)))
                clear hw7 HJ
                go_wp2
                go_round
                case rel => exact ⟨i + 1, by go_num, by omega, HJ2, J2⟩
                case measure => simp [intOf]; omega
            · obtain rfl : i = k := by omega
              have E : Hid (rb = true) := Lib.hid (HRB.out.symm.trans (eqC_true (by
                rw [H1.out, of_decide_eq_true HSB.out, map_ext (f := compOf) (l := cs) (l2 := cs') (by rw [HLC.out.1, HLC.out.2]) (fun k r q h1 h2 => J.out k r q (by have := (List.getElem?_eq_some_iff.1 h1).1; have := HLC.out.1; omega) h1 h2)])))
              go_wp2
              go_ret
              exact ⟨by rw [E.out]; rfl, HJ.out.2.2⟩
        · have E : Hid (rb = false) := Lib.hid (HRB.out.symm.trans (comp_ne (.inr (.inr (.inl (by rw [HLC.out.1, HLC.out.2]; exact h3))))))
          have ht : ((k : Int) != (k' : Int)) = true := by simp only [bne_iff_ne, ne_eq]; omega
          clear h3
          go_wp2
          go_ret
          exact ⟨by rw [E.out]; rfl, HJ.out.2.2⟩
    · rw [decide_eq_false h1, Bool.not_false] at e1
      rw [decide_eq_false h1] at f1
      have E : Hid (rb = false) := Lib.hid (HRB.out.symm.trans (comp_ne (.inl h1)))
      clear h1
      go_wp2
      go_ret
      exact ⟨by rw [E.out]; rfl, HB.out⟩

end Go.Proofs.YtlfhhnjdfpgadaaDoor

/-
  A text with small letters, as the document makes it; two texts that are alike.
-/
namespace Go.Proofs.YtlfhhnjdfpgadaaDoor
open Go.RowKit

theorem lowK_keep {l : List UInt8} {k : Nat} (hk : k < l.length) (h : lowC (l.getD k 0) = l.getD k 0) : lowK l k = lowK l (k + 1) := by
  rw [← lowK_set hk, h, ← lowK_get (l := l) (k := k)]
  have hk' : k < (lowK l k).length := by rw [lowK_length]; exact hk
  rw [List.getD_eq_getElem?_getD, List.getElem?_eq_getElem hk']
  simp
theorem lowC_keep {x : UInt8} (h : ¬ (65 ≤ x.toNat ∧ x.toNat ≤ 90)) : lowC x = x := by
  apply UInt8.toNat_inj.1
  rw [lowC_nat]
  unfold lowN
  rw [if_neg h]
theorem lowC_turn {x : UInt8} (h : 65 ≤ x.toNat ∧ x.toNat ≤ 90) : (lowC x).toNat = x.toNat + 32 := by
  rw [lowC_nat]
  unfold lowN
  rw [if_pos h]

set_option maxRecDepth 100000 in
set_option maxHeartbeats 2000000 in
theorem refLower_any (s : ByteArray) (hs : s.size ≤ 16777216) (w : World) :
    Calls Tryd.prog 11 #[.string s] w fun e w' => e = .returned (.string ⟨(lowL s.data.toList).toArray⟩) ∧ Below w.heap.size w w' := by
  have hcv := run_bytes_of_string (P := Tryd.prog) w 9 36 5 s Tryd.underlying9 Tryd.underlying36 Tryd.underlying5
  have hb0 := Byt.of_text w 5 s (grownCap w s.size 0 5)
  have hl0 := Byt.of_text_below w 5 s (grownCap w s.size 0 5)
  generalize hC : grownCap w s.size 0 5 = C at hcv hb0 hl0
  generalize w.drew.alloc (.cells (bytesRow s C) 5 ((bytesRow s C).size, (bytesRow s C).size + 1)) = w1 at hcv hb0 hl0
  generalize hg : w.heap.size = g at hcv hb0 hl0 ⊢
  have HG := Lib.hid hg; clear hg
  have hlen := Lib.hid (bsize s)
  have HB := Lib.hid hb0; have HL := Lib.hid hl0
  clear hb0 hl0 hC
  go_enter Tryd.func11, Tryd.ntmps11
  go_wp2
  clear hcv
  go_loopw [4] (fun p wr => ∃ k : Nat, p = .int .i64 k ∧ k ≤ s.size ∧ Hid (Byt wr g (lowK s.data.toList k)) ∧ Hid (Below g w wr)) (fun p _ => s.size - (intOf p).toNat)
  case atStart => exact ⟨0, rfl, Nat.zero_le _, Lib.hid (by rw [lowK_zero]; exact HB.out), HL⟩
  case round =>
    obtain ⟨k, rfl, hk, HB1, HL1⟩ := hrel
    by_cases hlt : k < s.size
    · have hce := HB1.out.cell k (by rw [lowK_length, ← hlen.out]; exact hlt)
      have hfr := HB1.out.free k (by rw [lowK_length, ← hlen.out]; exact hlt)
      rw [lowK_get] at hce
      obtain ⟨x, hx⟩ : ∃ x, x = s.data.toList.getD k 0 := ⟨_, rfl⟩
      rw [← hx] at hce
      have HX := Lib.hid hx; clear hx
      have hxb := x.toNat_lt
      by_cases h1 : 65 ≤ x.toNat
      · by_cases h2 : x.toNat ≤ 90
        · go_wp2
          have HB2 := Lib.hid (HB1.out.set k (lowC x))
          have HL2 := Lib.hid (HL1.out.setCell (p := ⟨g, k, none⟩) (Nat.le_refl _) (.int .u8 ((lowC x).toNat : Int)))
          rw [HX.out, lowK_set (by rw [← hlen.out]; exact hlt), ← HX.out, lowC_turn ⟨h1, h2⟩] at HB2
          rw [lowC_turn ⟨h1, h2⟩] at HL2
          go_round
          case rel => exact ⟨k + 1, by go_num, by omega, HB2, HL2⟩
          case measure => simp [intOf]; omega
        · have HB2 : Hid (Byt wr g (lowK s.data.toList (k + 1))) := Lib.hid (by rw [← lowK_keep (by rw [← hlen.out]; exact hlt) (by rw [← HX.out]; exact lowC_keep (by omega))]; exact HB1.out)
          go_wp2
          go_round
          case rel => exact ⟨k + 1, by go_num, by omega, HB2, HL1⟩
          case measure => simp [intOf]; omega
      · have HB2 : Hid (Byt wr g (lowK s.data.toList (k + 1))) := Lib.hid (by rw [← lowK_keep (by rw [← hlen.out]; exact hlt) (by rw [← HX.out]; exact lowC_keep (by omega))]; exact HB1.out)
        go_wp2
        go_round
        case rel => exact ⟨k + 1, by go_num, by omega, HB2, HL1⟩
        case measure => simp [intOf]; omega
    · obtain rfl : k = s.size := by omega
      have hcv2 := HB1.out.conv (P := Tryd.prog) Tryd.underlying36 Tryd.underlying5 Tryd.underlying9 C s.size (by rw [lowK_length, ← hlen.out])
      rw [lowK_all (by rw [← hlen.out]; exact Nat.le_refl _)] at hcv2
      go_wp2
      go_ret
      exact ⟨rfl, HL1.out⟩

theorem eqL (a b : List UInt8) : (a == b) = decide (a = b) := by
  by_cases h : a = b
  · subst h; simp
  · rw [decide_eq_false h, beq_eq_false_iff_ne]
    exact h

end Go.Proofs.YtlfhhnjdfpgadaaDoor

/-
  Whether one text stands in another one, as the program and as the document tell.
-/
namespace Go.Proofs.YtlfhhnjdfpgadaaDoor
open Go.RowKit

theorem occ_eq {s t : ByteArray} {k : Nat} (_hk : k + s.size ≤ t.size) : ((t.extract k (k + s.size)).toList == s.toList) = Lib.occAt t.data.toList s.data.toList k := by
  rw [ByteArray.toList_eq, ByteArray.toList_eq, ByteArray.data_extract, Array.toList_extract, List.extract_eq_take_drop]
  have h1 : k + s.size - k = s.data.toList.length := by rw [← bsize]; omega
  rw [h1]
  unfold Lib.occAt
  rw [Bool.eq_iff_iff, beq_iff_eq, List.isPrefixOf_iff_prefix, List.prefix_iff_eq_take]
  exact eq_comm

end Go.Proofs.YtlfhhnjdfpgadaaDoor

/-
  The document's own answers of layer 11: a property's text.
-/
namespace Go.Proofs.YtlfhhnjdfpgadaaDoor
open Go.RowKit

theorem mk_appL (a b : List UInt8) : (⟨a.toArray⟩ : ByteArray) ++ ⟨b.toArray⟩ = ⟨(a ++ b).toArray⟩ := by
  apply ByteArray.ext
  rw [ByteArray.data_append]
  simp
theorem mk_sizeL (a : List UInt8) : (⟨a.toArray⟩ : ByteArray).size = a.length := by simp [ByteArray.size]
theorem has_at {v : ByteArray} {c : UInt8} (h : c ∈ v.data.toList) : decide (0 ≤ Lib.index v.data.toList [c]) = true := decide_eq_true ((idx_has _ _).2 h)
theorem has_not {v : ByteArray} {c : UInt8} (h : c ∉ v.data.toList) : decide (0 ≤ Lib.index v.data.toList [c]) = false := decide_eq_false fun x => h ((idx_has _ _).1 x)

theorem vsize_le {vs : List ByteArray} {v : ByteArray} (h : v ∈ vs) : v.size + 1 ≤ vsize vs := by
  induction vs with
  | nil => cases h
  | cons x vs ih =>
    unfold vsize at *
    rw [List.map_cons, List.sum_cons]
    rcases List.mem_cons.1 h with e | h
    · subst e; omega
    · have := ih h; omega
theorem b1 (c : UInt8) : (⟨#[c]⟩ : ByteArray) = ⟨([c] : List UInt8).toArray⟩ := rfl
theorem s1 (c : UInt8) : (⟨#[c]⟩ : ByteArray).size = 1 := rfl

end Go.Proofs.YtlfhhnjdfpgadaaDoor

/-
  The document's own answers of layer 11: whether a property can be, and how it is written.
-/
namespace Go.Proofs.YtlfhhnjdfpgadaaDoor
open Go.RowKit

def parB (x : Par) : Bool := nameB x.name && (decide (x.vals ≠ []) && x.vals.all fun v => plainB v false)
/-- Whether a property can be, told. -/
def fitB (p : Pro) : Bool := nameB p.name && (decide (p.pars.length ≤ 16) && (plainB p.value true && (p.pars.all parB && decide ((textL p).length ≤ 1024))))
theorem fitB_iff (p : Pro) : fitB p = true ↔ proOk p := by
  unfold fitB proOk
  have hp : ∀ x : Par, parB x = true ↔ parOk x := by
    intro x
    unfold parB parOk
    simp only [Bool.and_eq_true, nameB_iff, decide_eq_true_eq, List.all_eq_true, plainB_iff]
  simp only [Bool.and_eq_true, nameB_iff, decide_eq_true_eq, List.all_eq_true, valueB_iff, hp]
/-- The block g is a parameter's variable. -/
def X2 (w : World) (g : Nat) (r : PR) : Prop := w.heap[g]? = some (.cells #[.string r.name, .slice r.K r.k r.kc] 60 (0, 0))
def putX (w : World) (g : Nat) (r : PR) : World := (w.setCell ⟨g, 0, none⟩ (.string r.name)).setCell ⟨g, 1, none⟩ (.slice r.K r.k r.kc)
section
variable {w w' : World} {g : Nat} {r : PR}
theorem X2.lt (h : X2 w g r) : g < w.heap.size := by
  rcases Nat.lt_or_ge g w.heap.size with hlt | hge
  · exact hlt
  · unfold X2 at h; rw [Array.getElem?_eq_none hge] at h; cases h
theorem X2.cells (h : X2 w g r) : w.cell? ⟨g, 0, none⟩ = some (.string r.name) ∧ w.cell? ⟨g, 1, none⟩ = some (.slice r.K r.k r.kc) := by
  unfold X2 at h
  exact ⟨by simp [World.cell?, h], by simp [World.cell?, h]⟩
theorem X2.step (h : X2 w g r) (hb : Below w.heap.size w w') : X2 w' g r := (hb.block g h.lt).trans h
theorem set_blk {v : World} {g : Nat} {A : Array Value} {T : TypeId} {fz : Nat × Nat} (h : v.heap[g]? = some (.cells A T fz)) (i : Nat) (u : Value) : (v.setCell ⟨g, i, none⟩ u).heap[g]? = some (.cells (A.setIfInBounds i u) T fz) := by
  simp [World.setCell, Array.getElem?_modify, h]
theorem X2.new (w : World) (r : PR) : X2 (w.alloc (.cells #[.string r.name, .slice r.K r.k r.kc] 60)) w.heap.size r := heap_alloc_new w _
theorem putX_below (w : World) (r : PR) (o : Obj) : Below w.heap.size w (putX (w.alloc o) w.heap.size r) :=
  (((Below.refl _ w).alloc (Nat.le_refl _) o).setCell (Nat.le_refl _) _).setCell (Nat.le_refl _) _
end
theorem alls_drop {α : Type} {f : α → Bool} {l : List α} {i : Nat} {x : α} (h : l[i]? = some x) : (l.drop i).all f = (f x && (l.drop (i + 1)).all f) := by
  obtain ⟨hi, e⟩ := List.getElem?_eq_some_iff.1 h
  rw [List.drop_eq_getElem_cons hi, List.all_cons, e]

/-- What Print tells. -/
def prnL (p : Pro) : List UInt8 := if fitB p = true then textL p else []

end Go.Proofs.YtlfhhnjdfpgadaaDoor

/-
  Which components can be.
-/
namespace Go.Proofs.YtlfhhnjdfpgadaaDoor
open Go.RowKit

def beginT : List UInt8 := [66, 69, 71, 73, 78]
def endT : List UInt8 := [69, 78, 68]
def propB (p : Pro) : Bool := fitB p && (!decide (p.name = beginT) && !decide (p.name = endT))
def fitC : Nat → CM → Bool
  | 0, _ => false
  | d + 1, .mk nm ps cs => nameB nm && (ps.all propB && cs.all (fitC d))
theorem qsize_mem {q : QR} : ∀ {qs : List QR}, q ∈ qs → qsize q ≤ qsizes qs
  | [], h => by cases h
  | y :: qs, h => by
    have e : qsizes (y :: qs) = qsize y + qsizes qs := by simp [qsizes]
    rw [e]
    rcases List.mem_cons.1 h with e | e
    · subst e; omega
    · have := qsize_mem e; omega

end Go.Proofs.YtlfhhnjdfpgadaaDoor

/-
  The document's reader of lines: a parameter's value.
-/
namespace Go.Proofs.YtlfhhnjdfpgadaaDoor
open Go.RowKit

def vf (b : Bool) (c : UInt8) : Bool := if b = true then qvC c else uvC c
/-- The bytes of a value at a place, how many. -/
def vlen (s : ByteArray) (p : Nat) (b : Bool) : Nat := ((s.data.toList.drop p).takeWhile (vf b)).length
theorem vlen_le (s : ByteArray) (p : Nat) (b : Bool) : vlen s p b ≤ s.size - p := by
  have := takeWhile_len (p := vf b) (s.data.toList.drop p)
  rw [List.length_drop, ← bsize] at this
  exact this
theorem vlen_in {s : ByteArray} {p k : Nat} {b : Bool} (hpk : p ≤ k) (h : k < s.size) : (k - p < vlen s p b → vf b s[k] = true) ∧ (k - p = vlen s p b → vf b s[k] = false) := by
  have := tw_get (f := vf b) (drop_get (s := s) (p := p) (i := k - p) (by omega))
  have e : s[p + (k - p)]'(by omega) = s[k] := by congr 1; omega
  rw [e] at this
  exact this
theorem vlen_end {s : ByteArray} {p k : Nat} {b : Bool} (hpk : p ≤ k) (hk : k ≤ p + vlen s p b) (h : k < s.size) (hf : vf b s[k] = false) : k = p + vlen s p b := by
  by_cases hh : k - p < vlen s p b
  · rw [(vlen_in hpk h).1 hh] at hf; cases hf
  · omega
theorem vlen_on {s : ByteArray} {p k : Nat} {b : Bool} (hpk : p ≤ k) (hk : k ≤ p + vlen s p b) (h : k < s.size) (hf : vf b s[k] = true) : k + 1 ≤ p + vlen s p b := by
  by_cases hh : k - p = vlen s p b
  · rw [(vlen_in hpk h).2 hh] at hf; cases hf
  · omega
theorem vlen_cut {s : ByteArray} {p k : Nat} {b : Bool} (hk : k = p + vlen s p b) : (s.extract p k).data.toList = (s.data.toList.drop p).takeWhile (vf b) := by
  rw [cut_take, hk, Nat.add_sub_cancel_left]
  unfold vlen
  rw [tw_take]
/-- What a value's reading leaves. -/
def ValSays (s : ByteArray) (p : Nat) (v : ByteArray) (q : Nat) (e2 : Int) : Prop :=
  match rdVal (s.data.toList.drop p) with | .ok a r => e2 = 0 ∧ v = ⟨a.toArray⟩ ∧ s.data.toList.drop q = r ∧ q ≤ s.size | .bad k => e2 = k
theorem of_list {v : ByteArray} {a : List UInt8} (h : v.data.toList = a) : v = ⟨a.toArray⟩ := by subst h; simp
theorem val_plain {s : ByteArray} {p k : Nat} (hq : (s.data.toList.drop p).head? ≠ some 34) (hk : k = p + vlen s p false) (hks : k ≤ s.size) : ValSays s p (s.extract p k) k 0 := by
  have e : rdVal (s.data.toList.drop p) = .ok ((s.data.toList.drop p).takeWhile (vf false)) ((s.data.toList.drop p).drop (vlen s p false)) := by
    unfold rdVal
    rw [if_neg hq]; rfl
  unfold ValSays
  rw [e]
  exact ⟨rfl, of_list (vlen_cut hk), by rw [List.drop_drop, hk], hks⟩
theorem val_quoted {s : ByteArray} {p k : Nat} (hq : (s.data.toList.drop p).head? = some 34) (hk : k = p + 1 + vlen s (p + 1) true) (hks : k < s.size) (h34 : (s.data.toList.drop k).head? = some 34) : ValSays s p (s.extract (p + 1) k) (k + 1) 0 := by
  have e2 : (s.data.toList.drop (p + 1)).drop (vlen s (p + 1) true) = s.data.toList.drop k := by rw [List.drop_drop, hk]
  have e : rdVal (s.data.toList.drop p) = .ok ((s.data.toList.drop (p + 1)).takeWhile (vf true)) ((s.data.toList.drop (p + 1)).drop (vlen s (p + 1) true + 1)) := by
    unfold rdVal
    rw [if_pos hq, List.drop_drop]
    unfold rdQuoted
    have h2 : ((s.data.toList.drop (p + 1)).drop ((s.data.toList.drop (p + 1)).takeWhile qvC).length).head? = some 34 := by
      rw [← h34, ← e2]; rfl
    rw [if_pos h2]; rfl
  unfold ValSays
  rw [e]
  exact ⟨rfl, of_list (vlen_cut hk), by rw [List.drop_drop, hk]; congr 1, by omega⟩
theorem val_open {s : ByteArray} {p k : Nat} (hq : (s.data.toList.drop p).head? = some 34) (hk : k = p + 1 + vlen s (p + 1) true) (h34 : (s.data.toList.drop k).head? ≠ some 34) (v : ByteArray) (q : Nat) : ValSays s p v q (eoE (s.data.toList.drop k)) := by
  have e2 : (s.data.toList.drop (p + 1)).drop (vlen s (p + 1) true) = s.data.toList.drop k := by rw [List.drop_drop, hk]
  have e : rdVal (s.data.toList.drop p) = .bad (eoE (s.data.toList.drop k)) := by
    unfold rdVal
    rw [if_pos hq, List.drop_drop]
    unfold rdQuoted
    have h2 : ¬ ((s.data.toList.drop (p + 1)).drop ((s.data.toList.drop (p + 1)).takeWhile qvC).length).head? = some 34 := by
      intro hh; apply h34; rw [← hh, ← e2]; rfl
    rw [if_neg h2, ← e2]; rfl
  unfold ValSays
  rw [e]
theorem isV_false {s : ByteArray} {p : Nat} {c : UInt8} (h : isV s p 0 c = false) : (s.data.toList.drop p).head? ≠ some c := by
  intro hh
  have := (isV_iff (s := s) (p := p) (e := 0) (c := c)).2 ⟨rfl, hh⟩
  rw [h] at this; cases this

end Go.Proofs.YtlfhhnjdfpgadaaDoor
