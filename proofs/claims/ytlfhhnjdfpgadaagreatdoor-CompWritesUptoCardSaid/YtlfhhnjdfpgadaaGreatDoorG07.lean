/-
  Whether two components are the same.
-/
import Derived.Test.YtlfhhnjdfpgadaaGreatDoorG06
import Derived.Lib.IndexMore
namespace Go.Proofs.YtlfhhnjdfpgadaaGreatDoor
open Go.RowKit

/-- A component as plain texts. -/
inductive CM where
  | mk (name : List UInt8) (props : List Pro) (comps : List CM) : CM
mutual
def compOf : CR → CM
  | .mk nm _ _ _ qs _ _ _ cs => .mk nm.data.toList (qs.map proQ) (compsOf cs)
def compsOf : List CR → List CM
  | [] => []
  | c :: cs => compOf c :: compsOf cs
end
theorem compsOf_map : ∀ l : List CR, compsOf l = l.map compOf
  | [] => by simp [compsOf]
  | c :: l => by simp [compsOf, compsOf_map l]
theorem compOf_mk (nm : ByteArray) (A : Option Addr) (n c : Nat) (qs : List QR) (K : Option Addr) (k kc : Nat) (cs : List CR) : compOf (.mk nm A n c qs K k kc cs) = .mk nm.data.toList (qs.map proQ) (cs.map compOf) := by rw [compOf, compsOf_map]
noncomputable def eqC (a b : CM) : Bool := @decide (a = b) (Classical.propDecidable _)
theorem eqC_true {a b : CM} (h : a = b) : eqC a b = true := by unfold eqC; exact @decide_eq_true _ (Classical.propDecidable _) h
theorem eqC_false {a b : CM} (h : a ≠ b) : eqC a b = false := by unfold eqC; exact @decide_eq_false _ (Classical.propDecidable _) h
theorem eqC_iff {a b : CM} : eqC a b = true ↔ a = b := by unfold eqC; exact @decide_eq_true_iff _ (Classical.propDecidable _)
theorem of_eqC_false {a b : CM} (h : eqC a b = false) : a ≠ b := fun e => by rw [eqC_true e] at h; cases h
theorem comp_ne {a a' : List UInt8} {b b' : List Pro} {l l2 : List CR} (h : a ≠ a' ∨ b ≠ b' ∨ l.length ≠ l2.length ∨ ∃ (i : Nat) (r q : CR), l[i]? = some r ∧ l2[i]? = some q ∧ compOf r ≠ compOf q) : eqC (.mk a b (l.map compOf)) (.mk a' b' (l2.map compOf)) = false := by
  refine eqC_false fun e => ?_
  rw [CM.mk.injEq] at e
  rcases h with h | h | h | ⟨i, r, q, h1, h2, h3⟩
  · exact h e.1
  · exact h e.2.1
  · have := congrArg List.length e.2.2
    simp only [List.length_map] at this
    exact h this
  · have := congrArg (·[i]?) e.2.2
    simp only [List.getElem?_map, h1, h2, Option.map_some, Option.some.injEq] at this
    exact h3 this

set_option maxRecDepth 100000 in
set_option maxHeartbeats 4000000 in
theorem refSame12_any : ∀ (N : Nat) (r r' : CR) (w : World), csize r ≤ N → COk w w.heap.size r → COk w w.heap.size r' →
    Calls Tryz.prog 10 #[.agg #[(fC r).1, (fC r).2.1, (fC r).2.2], .agg #[(fC r').1, (fC r').2.1, (fC r').2.2]] w fun e w' => e = .returned (.bool (eqC (compOf r) (compOf r'))) ∧ Below w.heap.size w w'
  | 0, .mk nm A n c qs K k kc cs, _, w, hN, _, _ => absurd hN (by simp [csize])
  | N + 1, .mk nm A n c qs K k kc cs, .mk nm' A' n' c' qs' K' k' kc' cs', w, hN, hC, hC' => by
    have hb1 : Below w.heap.size w (w.alloc (.cells #[.string nm, .slice A n c, .slice K k kc] 25)) := (Below.refl _ w).alloc (Nat.le_refl _) _
    have hb2 := (Below.refl _ (w.alloc (.cells #[.string nm, .slice A n c, .slice K k kc] 25))).alloc (Nat.le_refl _) (.cells #[.string nm', .slice A' n' c', .slice K' k' kc'] 25)
    have HA := Lib.hid ((CA.new hC).step hb2)
    have HA2 := Lib.hid (CA.new (hC'.step hb1))
    have HB := Lib.hid (bstep hb1 hb2)
    have HN : Hid (csizes cs ≤ N) := Lib.hid (by rw [csize] at hN; omega)
    have IH := Lib.hid (refSame12_any N)
    have hn : n ≤ 9223372036854775807 := by have := hC.nle; unfold maxLen at this; omega
    have hn' : n' ≤ 9223372036854775807 := by have := hC'.nle; unfold maxLen at this; omega
    have hk : k ≤ 9223372036854775807 := by have := hC.kle; unfold maxLen at this; omega
    have hk' : k' ≤ 9223372036854775807 := by have := hC'.kle; unfold maxLen at this; omega
    have HLC := Lib.hid (And.intro hC.rc.len3 hC'.rc.len3)
    clear hC hC' hN hb1 hb2
    have hmx : Tryz.prog.follows .mixedOrders = true := by kernel_rfl
    rw [compOf_mk, compOf_mk]
    obtain ⟨rb, hrb⟩ : ∃ rb, eqC (.mk nm.data.toList (qs.map proQ) (cs.map compOf)) (.mk nm'.data.toList (qs'.map proQ) (cs'.map compOf)) = rb := ⟨_, rfl⟩
    rw [hrb]
    have HRB := Lib.hid hrb
    clear hrb
    show Calls Tryz.prog 10 #[.agg #[.string nm, .slice A n c, .slice K k kc], .agg #[.string nm', .slice A' n' c', .slice K' k' kc']] w _
    have e1 := strNe nm nm'
    have f1 := strEqL nm nm'
    go_enter Tryz.func10, Tryz.ntmps10
    generalize hW : (w.alloc (.cells #[.string nm, .slice A n c, .slice K k kc] 25)).alloc (.cells #[.string nm', .slice A' n' c', .slice K' k' kc'] 25) = w1 at HA HA2 HB
    have hsz : (w.alloc (.cells #[.string nm, .slice A n c, .slice K k kc] 25)).heap.size = w.heap.size + 1 := by simp
    rw [hsz] at HA2
    obtain ⟨x0, x1, x2⟩ := HA.out.bx.cells
    obtain ⟨y0, y1, y2⟩ := HA2.out.bx.cells
    by_cases h1 : nm.data.toList = nm'.data.toList
    · rw [decide_eq_true h1, Bool.not_true] at e1
      rw [decide_eq_true h1] at f1
      have H1 := Lib.hid h1
      clear h1
      have cr := rows_any A A' n c n' c' qs qs' _ HA.out.ok.rq HA.out.ok.vq HA2.out.ok.rq HA2.out.ok.vq hn hn'
      obtain ⟨sb, hsb⟩ : ∃ sb, decide (qs.map proQ = qs'.map proQ) = sb := ⟨_, rfl⟩
      rw [hsb] at cr
      have HSB := Lib.hid hsb
      clear hsb
      go_wp2_with fail
      refine cr.mono ?_
      rintro e w2 ⟨rfl, hb2⟩
      have HJ := Lib.hid (And.intro (HA.out.step hb2) (And.intro (HA2.out.step hb2) (bstep HB.out hb2)))
      clear cr hb2 HA HA2 HB hW hsz x0 x1 x2 y0 y1 y2
      obtain ⟨x0, x1, x2⟩ := HJ.out.1.bx.cells
      obtain ⟨y0, y1, y2⟩ := HJ.out.2.1.bx.cells
      cases sb
      · have E : Hid (rb = false) := Lib.hid (HRB.out.symm.trans (comp_ne (.inr (.inl (of_decide_eq_false HSB.out)))))
        go_wp2
        go_ret
        exact ⟨by rw [E.out]; rfl, HJ.out.2.2⟩
      · by_cases h3 : k = k'
        · subst h3
          have ht : ((k : Int) != (k : Int)) = false := by simp
          go_wp2
          clear ht x0 x1 x2 y0 y1 y2 hn hn' hk'
          go_loopw [5] (fun s5 wr => ∃ i : Nat, s5 = .int .i64 i ∧ i ≤ k ∧ Hid (CA wr w.heap.size nm A n c qs K k kc cs ∧ CA wr (w.heap.size + 1) nm' A' n' c' qs' K' k kc' cs' ∧ Below w.heap.size w wr) ∧ Hid (∀ (j : Nat) (r q : CR), j < i → cs[j]? = some r → cs'[j]? = some q → compOf r = compOf q)) (fun s5 _ => k - (intOf s5).toNat)
          case atStart => exact ⟨0, rfl, Nat.zero_le _, HJ, Lib.hid fun j r q hk => absurd hk (Nat.not_lt_zero _)⟩
          case round =>
            clear HJ
            obtain ⟨i, rfl, hi, HJ, J⟩ := hrel
            obtain ⟨x0, x1, x2⟩ := HJ.out.1.bx.cells
            obtain ⟨y0, y1, y2⟩ := HJ.out.2.1.bx.cells
            by_cases hlt : i < k
            · obtain ⟨r, hr⟩ : ∃ r, cs[i]? = some r := ⟨cs[i]'(by have := HLC.out.1; omega), List.getElem?_eq_getElem (by have := HLC.out.1; omega)⟩
              obtain ⟨q, hq⟩ : ∃ q, cs'[i]? = some q := ⟨cs'[i]'(by have := HLC.out.2; omega), List.getElem?_eq_getElem (by have := HLC.out.2; omega)⟩
              obtain ⟨b, o, hKe, p0, p1, p2⟩ := HJ.out.1.atC hr
              obtain ⟨b2, o2, hKe2, q0, q1, q2⟩ := HJ.out.2.1.atC hq
              have hm := List.mem_of_getElem? hr
              have HP := Lib.hid (And.intro (Nat.le_trans (csize_mem hm) HN.out) (And.intro (HJ.out.1.ok.vc r hm) (HJ.out.2.1.ok.vc q (List.mem_of_getElem? hq))))
              have HR := Lib.hid hr
              have HQ := Lib.hid hq
              have P0 := Lib.hid (And.intro p0 (And.intro p1 p2))
              have Q0 := Lib.hid (And.intro q0 (And.intro q1 q2))
              have X2 := Lib.hid x2
              have Y2 := Lib.hid y2
              have HKE := Lib.hid hKe
              have HKE2 := Lib.hid hKe2
              obtain ⟨sc, hsc⟩ : ∃ sc, eqC (compOf r) (compOf q) = sc := ⟨_, rfl⟩
              have HSC := Lib.hid hsc
              have ci := fun (w5 : World) (hw5 : Below wr.heap.size wr w5) => IH.out r q w5 HP.out.1 (HP.out.2.1.step hw5) (HP.out.2.2.step hw5)
              simp only [hsc] at ci
              have CI := Lib.hid ci
              clear ci hsc hm hr hq p0 p1 p2 q0 q1 q2 hKe hKe2
              go_wp2_with fail
              refine region_heldL (C := fun w5 => Below wr.heap.size wr w5) hmx (by kernel_rfl) ((Below.refl _ _).drew) ?_
              repeat (first
                | go_big_quiet_skip
                | (go_big_quiet_want; go_big_quiet_op; first
                    | go_big_quiet_on
                    | (refine ⟨_, fun _ _ => rfl, ?_⟩; go_big_quiet_on)
                    | (apply Exists.intro
                       refine ⟨fun w5 hw5 => ?_, ?_⟩
                       · have z2 := cell_keep X2.out hw5
                         rw [HKE.out] at z2
                         simp only [z2, Result.andThen_ok]
                         first | exact ⟨trivial, rfl⟩ | exact ⟨rfl, rfl⟩
                       go_big_quiet_on)
                    | (apply Exists.intro
                       refine ⟨fun w5 hw5 => ?_, ?_⟩
                       · have z2 := cell_keep Y2.out hw5
                         rw [HKE2.out] at z2
                         simp only [z2, Result.andThen_ok]
                         first | exact ⟨trivial, rfl⟩ | exact ⟨rfl, rfl⟩
                       go_big_quiet_on)
                    | (apply Exists.intro
                       refine ⟨fun w5 hw5 => ?_, ?_⟩
                       · have z0 := cell_keep P0.out.1 hw5
                         have z1 := cell_keep P0.out.2.1 hw5
                         have z2 := cell_keep P0.out.2.2 hw5
                         simp only [z0, z1, z2, Result.andThen_ok]
                         first | exact ⟨trivial, rfl⟩ | exact ⟨rfl, rfl⟩
                       go_big_quiet_on)
                    | (apply Exists.intro
                       refine ⟨fun w5 hw5 => ?_, ?_⟩
                       · have z0 := cell_keep Q0.out.1 hw5
                         have z1 := cell_keep Q0.out.2.1 hw5
                         have z2 := cell_keep Q0.out.2.2 hw5
                         simp only [z0, z1, z2, Result.andThen_ok]
                         first | exact ⟨trivial, rfl⟩ | exact ⟨rfl, rfl⟩
                       go_big_quiet_on)
                    | (apply Exists.intro
                       refine ⟨fun w5 hw5 => ?_, ?_⟩
                       · (with_reducible refine (CI.out w5 hw5).mono ?_); rintro e w6 ⟨rfl, hbx⟩; exact ⟨rfl, bstep hw5 hbx⟩
                       go_big_quiet_on)))
              refine wpQuiet_nil ?_
              intro w7 hw7
              cases sc
              · have E : Hid (rb = false) := Lib.hid (HRB.out.symm.trans (comp_ne (.inr (.inr (.inr ⟨i, r, q, HR.out, HQ.out, of_eqC_false HSC.out⟩)))))
                go_wp2
                go_ret
                exact ⟨by rw [E.out]; rfl, bstep HJ.out.2.2 hw7⟩
              · have J2 : Hid (∀ (j : Nat) (r q : CR), j < i + 1 → cs[j]? = some r → cs'[j]? = some q → compOf r = compOf q) := Lib.hid fun j r' q' hj h1 h2 => by
                  by_cases e : j = i
                  · subst e
                    have a1 := Option.some.inj (HR.out.symm.trans h1)
                    have a2 := Option.some.inj (HQ.out.symm.trans h2)
                    subst a1 a2
                    exact eqC_iff.1 HSC.out
                  · exact J.out j r' q' (by omega) h1 h2
                have HJ2 := Lib.hid (And.intro (HJ.out.1.step hw7) (And.intro (HJ.out.2.1.step hw7) (bstep HJ.out.2.2 hw7)))
                clear hw7 HJ
                go_wp2
                go_round
                case rel => exact ⟨i + 1, by go_num, by omega, HJ2, J2⟩
                case measure => simp [intOf]; omega
            · obtain rfl : i = k := by omega
              have E : Hid (rb = true) := Lib.hid (HRB.out.symm.trans (eqC_true (by
                rw [H1.out, of_decide_eq_true HSB.out, map_ext (f := compOf) (l := cs) (l2 := cs') (by rw [HLC.out.1, HLC.out.2]) (fun k r q h1 h2 => J.out k r q (by have := (List.getElem?_eq_some_iff.1 h1).1; have := HLC.out.1; omega) h1 h2)])))
              go_wp2
              go_ret
              exact ⟨by rw [E.out]; rfl, HJ.out.2.2⟩
        · have E : Hid (rb = false) := Lib.hid (HRB.out.symm.trans (comp_ne (.inr (.inr (.inl (by rw [HLC.out.1, HLC.out.2]; exact h3))))))
          have ht : ((k : Int) != (k' : Int)) = true := by simp only [bne_iff_ne, ne_eq]; omega
          clear h3
          go_wp2
          go_ret
          exact ⟨by rw [E.out]; rfl, HJ.out.2.2⟩
    · rw [decide_eq_false h1, Bool.not_false] at e1
      rw [decide_eq_false h1] at f1
      have E : Hid (rb = false) := Lib.hid (HRB.out.symm.trans (comp_ne (.inl h1)))
      clear h1
      go_wp2
      go_ret
      exact ⟨by rw [E.out]; rfl, HB.out⟩

end Go.Proofs.YtlfhhnjdfpgadaaGreatDoor

/-
  A text with small letters, as the document makes it; two texts that are alike.
-/
namespace Go.Proofs.YtlfhhnjdfpgadaaGreatDoor
open Go.RowKit

theorem lowK_keep {l : List UInt8} {k : Nat} (hk : k < l.length) (h : lowC (l.getD k 0) = l.getD k 0) : lowK l k = lowK l (k + 1) := by
  rw [← lowK_set hk, h, ← lowK_get (l := l) (k := k)]
  have hk' : k < (lowK l k).length := by rw [lowK_length]; exact hk
  rw [List.getD_eq_getElem?_getD, List.getElem?_eq_getElem hk']
  simp
theorem lowC_keep {x : UInt8} (h : ¬ (65 ≤ x.toNat ∧ x.toNat ≤ 90)) : lowC x = x := by
  apply UInt8.toNat_inj.1
  rw [lowC_nat]
  unfold lowN
  rw [if_neg h]
theorem lowC_turn {x : UInt8} (h : 65 ≤ x.toNat ∧ x.toNat ≤ 90) : (lowC x).toNat = x.toNat + 32 := by
  rw [lowC_nat]
  unfold lowN
  rw [if_pos h]

theorem eqL (a b : List UInt8) : (a == b) = decide (a = b) := by
  by_cases h : a = b
  · subst h; simp
  · rw [decide_eq_false h, beq_eq_false_iff_ne]
    exact h

end Go.Proofs.YtlfhhnjdfpgadaaGreatDoor

/-
  Whether one text stands in another one, as the program and as the document tell.
-/
namespace Go.Proofs.YtlfhhnjdfpgadaaGreatDoor
open Go.RowKit

theorem occ_eq {s t : ByteArray} {k : Nat} (_hk : k + s.size ≤ t.size) : ((t.extract k (k + s.size)).toList == s.toList) = Lib.occAt t.data.toList s.data.toList k := by
  rw [ByteArray.toList_eq, ByteArray.toList_eq, ByteArray.data_extract, Array.toList_extract, List.extract_eq_take_drop]
  have h1 : k + s.size - k = s.data.toList.length := by rw [← bsize]; omega
  rw [h1]
  unfold Lib.occAt
  rw [Bool.eq_iff_iff, beq_iff_eq, List.isPrefixOf_iff_prefix, List.prefix_iff_eq_take]
  exact eq_comm

set_option maxRecDepth 100000 in
set_option maxHeartbeats 1000000 in
theorem refAt_any (s t : ByteArray) (hs : s.size ≤ 16777216) (ht : t.size ≤ 16777216) (w : World) :
    Calls Tryz.prog 87 #[.string s, .string t] w fun e w' => e = .returned (.int .i64 (Lib.index t.data.toList s.data.toList)) ∧ w' = w := by
  go_enter Tryz.func87, Tryz.ntmps87
  go_wp2
  go_loopw [5] (fun p wr => ∃ k : Nat, p = .int .i64 k ∧ k ≤ t.size + 1 ∧ wr = w ∧ Hid (∀ j, j < k → Lib.occAt t.data.toList s.data.toList j = false)) (fun p _ => t.size + 1 - (intOf p).toNat)
  case atStart => exact ⟨0, rfl, Nat.zero_le _, rfl, Lib.hid fun j hj => absurd hj (Nat.not_lt_zero _)⟩
  case round =>
    obtain ⟨k, rfl, hk, rfl, HN⟩ := hrel
    by_cases hlt : k + s.size ≤ t.size
    · have hq := occ_eq hlt
      cases ho : Lib.occAt t.data.toList s.data.toList k
      · rw [ho] at hq
        have HN2 : Hid (∀ j, j < k + 1 → Lib.occAt t.data.toList s.data.toList j = false) := Lib.hid fun j hj => by
          by_cases e : j = k
          · subst e; exact ho
          · exact HN.out j (by omega)
        clear ho
        have hd : (k : Int) + (s.size : Int) ≤ (t.size : Int) := by omega
        go_wp2
        go_round
        case rel => exact ⟨k + 1, by go_num, by omega, by first | rfl | trivial, HN2⟩
        case measure => simp [intOf]; omega
      · rw [ho] at hq
        have HI : Hid (Lib.index t.data.toList s.data.toList = k) := Lib.hid (Lib.index_first (by rw [← bsize]; omega) ho HN.out)
        clear ho
        have hd : (k : Int) + (s.size : Int) ≤ (t.size : Int) := by omega
        go_wp2
        go_ret
        refine ⟨?_, ?_⟩
        · rw [HI.out]; rfl
        · rfl
    · have HI : Hid (Lib.index t.data.toList s.data.toList = -1) := Lib.hid (Lib.index_none fun j hj => by
        by_cases h : j < k
        · exact HN.out j h
        · cases ho : Lib.occAt t.data.toList s.data.toList j
          · rfl
          · unfold Lib.occAt at ho
            rw [List.isPrefixOf_iff_prefix] at ho
            have := ho.length_le
            rw [List.length_drop, ← bsize, ← bsize] at this
            rw [← bsize] at hj
            exfalso
            have : s.size ≠ 0 ∨ t.size < j + s.size := by omega
            omega)
      have hd : (t.size : Int) < (k : Int) + (s.size : Int) := by omega
      go_wp2
      go_ret
      exact ⟨by rw [HI.out]; rfl, rfl⟩

end Go.Proofs.YtlfhhnjdfpgadaaGreatDoor

/-
  The document's own answers of layer 11: a property's text.
-/
namespace Go.Proofs.YtlfhhnjdfpgadaaGreatDoor
open Go.RowKit

theorem mk_appL (a b : List UInt8) : (⟨a.toArray⟩ : ByteArray) ++ ⟨b.toArray⟩ = ⟨(a ++ b).toArray⟩ := by
  apply ByteArray.ext
  rw [ByteArray.data_append]
  simp
theorem mk_sizeL (a : List UInt8) : (⟨a.toArray⟩ : ByteArray).size = a.length := by simp [ByteArray.size]
theorem has_at {v : ByteArray} {c : UInt8} (h : c ∈ v.data.toList) : decide (0 ≤ Lib.index v.data.toList [c]) = true := decide_eq_true ((idx_has _ _).2 h)
theorem has_not {v : ByteArray} {c : UInt8} (h : c ∉ v.data.toList) : decide (0 ≤ Lib.index v.data.toList [c]) = false := decide_eq_false fun x => h ((idx_has _ _).1 x)

theorem vsize_le {vs : List ByteArray} {v : ByteArray} (h : v ∈ vs) : v.size + 1 ≤ vsize vs := by
  induction vs with
  | nil => cases h
  | cons x vs ih =>
    unfold vsize at *
    rw [List.map_cons, List.sum_cons]
    rcases List.mem_cons.1 h with e | h
    · subst e; omega
    · have := ih h; omega
theorem b1 (c : UInt8) : (⟨#[c]⟩ : ByteArray) = ⟨([c] : List UInt8).toArray⟩ := rfl
theorem s1 (c : UInt8) : (⟨#[c]⟩ : ByteArray).size = 1 := rfl

set_option maxRecDepth 100000 in
set_option maxHeartbeats 8000000 in
theorem refText11_any (nm vl : ByteArray) (L : Option Addr) (n c : Nat) (l : List PR) (w : World) (hR : Reads w w.heap.size 2 L n (encP l)) (hP : ∀ r ∈ l, POk w w.heap.size r) (hn : n ≤ c) (hc : c ≤ maxLen) (hsz : nm.size + psizes l + vl.size ≤ 1048576) :
    Calls Tryz.prog 64 #[.agg #[.string nm, .slice L n c, .string vl]] w fun e w' => e = .returned (.string ⟨(textL (proOf nm l vl)).toArray⟩) ∧ Below w.heap.size w w' := by
  have HA := Lib.hid (PA.new hR hP hn hc nm vl)
  have HB : Hid (Below w.heap.size w (w.alloc (.cells #[.string nm, .slice L n c, .string vl] 30))) := Lib.hid ((Below.refl _ w).alloc (Nat.le_refl _) _)
  have hnm : n ≤ 9223372036854775807 := by have := hc; unfold maxLen at this; omega
  have HPL : Hid (∀ i, (preL nm l i).length ≤ 5242880) := Lib.hid fun i => by have := preL_len nm l i; omega
  have HPS : Hid (∀ r, r ∈ l → (∀ k, (valsK r k).length ≤ 3145728) ∧ r.name.size ≤ 1048576 ∧ ∀ v ∈ r.vs, v.size ≤ 1048576) := Lib.hid fun r hr => by
    have h1 := psize_le hr
    unfold psize at h1
    refine ⟨fun k => by have := valsK_len r k; omega, by omega, fun v hv => ?_⟩
    have : v.size + 1 ≤ vsize r.vs := vsize_le hv
    omega
  have hvl : vl.size ≤ 1048576 := by omega
  clear hR hP hn hc hsz
  go_enter Tryz.func64, Tryz.ntmps64
  have HL := Lib.hid HA.out.len
  generalize hW : w.alloc (.cells #[.string nm, .slice L n c, .string vl] 30) = w1 at HA HB
  have hp0 := HA.out.bx.cells
  obtain ⟨x0, x1, x2⟩ := hp0
  go_wp2
  clear hW x0 x1 x2
  go_loopw [3, 4, 5, 6] (fun s3 s4 s5 s6 wr => ∃ i : Nat, s4 = .int .i64 i ∧ i ≤ n ∧ wr = w1 ∧ s3 = .string ⟨(preL nm l i).toArray⟩) (fun _ s4 _ _ _ => n - (intOf s4).toNat)
  case atStart => exact ⟨0, rfl, Nat.zero_le _, rfl, by rw [preL_zero, mk_toList]⟩
  case round =>
    obtain ⟨i, rfl, hi, rfl, rfl⟩ := hrel
    obtain ⟨p0, p1, p2⟩ := HA.out.bx.cells
    have hs0 := HPL.out i
    have hsz0 : (⟨(preL nm l i).toArray⟩ : ByteArray).size = (preL nm l i).length := mk_sizeL _
    by_cases hlt : i < n
    · obtain ⟨r, hr⟩ : ∃ r, l[i]? = some r := ⟨l[i]'(by have := HL.out; omega), List.getElem?_eq_getElem (by have := HL.out; omega)⟩
      obtain ⟨b, o, hLe, q0, q1⟩ := HA.out.at hr
      have hmem := List.mem_of_getElem? hr
      have HPO := Lib.hid (HA.out.vs r hmem)
      obtain ⟨hvk, hrn, hvv⟩ := HPS.out r hmem
      have HVK := Lib.hid hvk
      have HVV := Lib.hid hvv
      have HST := Lib.hid (preL_step (nm := nm) hr)
      have HKL := Lib.hid HPO.out.len
      have hkm : r.k ≤ 9223372036854775807 := by have := HPO.out.le; have := HPO.out.cap; unfold maxLen at this; omega
      clear hr hmem hvk hvv
      subst hLe
      -- the name
      have HE := Lib.hid (show (⟨(preL nm l i).toArray⟩ : ByteArray) ++ ⟨#[59]⟩ ++ r.name ++ ⟨#[61]⟩ = ⟨(preL nm l i ++ (59 :: (r.name.data.toList ++ 61 :: valsK r 0))).toArray⟩ by
        rw [show (⟨#[59]⟩ : ByteArray) = ⟨([59] : List UInt8).toArray⟩ from rfl, show (⟨#[61]⟩ : ByteArray) = ⟨([61] : List UInt8).toArray⟩ from rfl]
        conv => lhs; rw [← mk_toList r.name]
        rw [mk_appL, mk_appL, mk_appL, valsK_zero]
        simp)
      generalize hA : (⟨(preL nm l i).toArray⟩ : ByteArray) = A at *
      have HA2 := Lib.hid hA
      clear hA
      have no1 : ¬ 9223372036854775807 < A.size + (⟨#[59]⟩ : ByteArray).size := by rw [show (⟨#[59]⟩ : ByteArray).size = 1 from rfl]; omega
      have no2 : ¬ 9223372036854775807 < (A ++ (⟨#[59]⟩ : ByteArray)).size + r.name.size := by rw [ByteArray.size_append, show (⟨#[59]⟩ : ByteArray).size = 1 from rfl]; omega
      have no3 : ¬ 9223372036854775807 < (A ++ (⟨#[59]⟩ : ByteArray) ++ r.name).size + (⟨#[61]⟩ : ByteArray).size := by rw [ByteArray.size_append, ByteArray.size_append, show (⟨#[59]⟩ : ByteArray).size = 1 from rfl, show (⟨#[61]⟩ : ByteArray).size = 1 from rfl]; omega
      go_wp2
      rw [HE.out]
      clear no1 no2 no3 HE
      have hpl : (preL nm l i).length ≤ 5242880 := hs0
      go_loopw [3, 5, 6] (fun s3 s5 s6 wr2 => ∃ k : Nat, s5 = .int .i64 k ∧ k ≤ r.k ∧ wr2 = wr ∧ s3 = .string ⟨(preL nm l i ++ (59 :: (r.name.data.toList ++ 61 :: valsK r k))).toArray⟩) (fun _ s5 _ _ => r.k - (intOf s5).toNat)
      case atStart => exact ⟨0, rfl, Nat.zero_le _, rfl, rfl⟩
      case round =>
        obtain ⟨k, rfl, hk, rfl, rfl⟩ := hrel
        have hvl2 := HVK.out k
        by_cases hlt2 : k < r.k
        · obtain ⟨v, hv⟩ : ∃ v, r.vs[k]? = some v := ⟨r.vs[k]'(by have := HKL.out; omega), List.getElem?_eq_getElem (by have := HKL.out; omega)⟩
          obtain ⟨b2, o2, hKe, q2⟩ := HPO.out.at hv
          have hvs := HVV.out v (List.mem_of_getElem? hv)
          have HSP := Lib.hid (valsK_step hv)
          have a44 := fun W => refAt_any ⟨#[44]⟩ v (by decide) (by omega) W
          have a59 := fun W => refAt_any ⟨#[59]⟩ v (by decide) (by omega) W
          have a58 := fun W => refAt_any ⟨#[58]⟩ v (by decide) (by omega) W
          rw [show (⟨#[44]⟩ : ByteArray).data.toList = [44] from rfl] at a44
          rw [show (⟨#[59]⟩ : ByteArray).data.toList = [59] from rfl] at a59
          rw [show (⟨#[58]⟩ : ByteArray).data.toList = [58] from rfl] at a58
          rw [hKe] at q1
          clear hv hKe
          have hS : (⟨(preL nm l i ++ (59 :: (r.name.data.toList ++ 61 :: valsK r k))).toArray⟩ : ByteArray).size ≤ 10485760 := by
            rw [mk_sizeL]
            have := Array.length_toList (xs := r.name.data)
            have e : r.name.data.size = r.name.size := rfl
            simp only [List.length_append, List.length_cons]
            omega
          obtain ⟨S, hS2⟩ : ∃ S : ByteArray, (⟨(preL nm l i ++ (59 :: (r.name.data.toList ++ 61 :: valsK r k))).toArray⟩ : ByteArray) = S := ⟨_, rfl⟩
          rw [hS2] at hS ⊢
          have HS2 := Lib.hid hS2
          clear hS2 hvl2
          by_cases hk0 : k = 0
          · rw [if_pos hk0, List.nil_append] at HSP
            have hkg : decide ((0 : Int) < (k : Int)) = false := decide_eq_false (by omega)
            have hkg2 : decide (0 < k) = false := decide_eq_false (by omega)
            have hkg3 : ¬ 0 < k := by omega
            clear hk0
            by_cases h44 : (44 : UInt8) ∈ v.data.toList
            · have hq : quoteL v.data.toList = 34 :: (v.data.toList ++ [34]) := by unfold quoteL; rw [sep_44 h44]; rfl
              rw [hq] at HSP
              clear hq
              have HE2 := Lib.hid (show S ++ ((⟨#[34]⟩ : ByteArray) ++ v ++ (⟨#[34]⟩ : ByteArray)) = ⟨(preL nm l i ++ (59 :: (r.name.data.toList ++ 61 :: valsK r (k + 1)))).toArray⟩ by
                rw [HSP.out, ← HS2.out]
                conv => lhs; rw [← mk_toList v]
                simp only [mk_appL]
                simp)
              have no2 : ¬ 9223372036854775807 < (⟨#[34]⟩ : ByteArray).size + v.size := by rw [s1]; omega
              have no3 : ¬ 9223372036854775807 < ((⟨#[34]⟩ : ByteArray) ++ v).size + (⟨#[34]⟩ : ByteArray).size := by rw [ByteArray.size_append, s1]; omega
              have no4 : ¬ 9223372036854775807 < S.size + ((⟨#[34]⟩ : ByteArray) ++ v ++ (⟨#[34]⟩ : ByteArray)).size := by rw [ByteArray.size_append, ByteArray.size_append, s1]; omega
              have d44 := has_at h44
              generalize Lib.index v.data.toList [44] = z44 at *
              generalize Lib.index v.data.toList [59] = z59 at *
              generalize Lib.index v.data.toList [58] = z58 at *
              clear h44
              go_wp2_with (first
                | (go_at_call 87; ((with_reducible refine (a44 _).mono ?_); rintro e w' ⟨rfl, hw⟩; subst w'))
                | (go_at_call 87; ((with_reducible refine (a59 _).mono ?_); rintro e w' ⟨rfl, hw⟩; subst w'))
                | (go_at_call 87; ((with_reducible refine (a58 _).mono ?_); rintro e w' ⟨rfl, hw⟩; subst w')))
              rw [HE2.out]
              go_round
              case rel => exact ⟨k + 1, by go_num, by omega, by first | rfl | trivial, rfl⟩
              case measure => simp [intOf]; omega
            by_cases h59 : (59 : UInt8) ∈ v.data.toList
            · have hq : quoteL v.data.toList = 34 :: (v.data.toList ++ [34]) := by unfold quoteL; rw [sep_59 h59]; rfl
              rw [hq] at HSP
              clear hq
              have HE2 := Lib.hid (show S ++ ((⟨#[34]⟩ : ByteArray) ++ v ++ (⟨#[34]⟩ : ByteArray)) = ⟨(preL nm l i ++ (59 :: (r.name.data.toList ++ 61 :: valsK r (k + 1)))).toArray⟩ by
                rw [HSP.out, ← HS2.out]
                conv => lhs; rw [← mk_toList v]
                simp only [mk_appL]
                simp)
              have no2 : ¬ 9223372036854775807 < (⟨#[34]⟩ : ByteArray).size + v.size := by rw [s1]; omega
              have no3 : ¬ 9223372036854775807 < ((⟨#[34]⟩ : ByteArray) ++ v).size + (⟨#[34]⟩ : ByteArray).size := by rw [ByteArray.size_append, s1]; omega
              have no4 : ¬ 9223372036854775807 < S.size + ((⟨#[34]⟩ : ByteArray) ++ v ++ (⟨#[34]⟩ : ByteArray)).size := by rw [ByteArray.size_append, ByteArray.size_append, s1]; omega
              have d44 := has_not h44
              have d59 := has_at h59
              generalize Lib.index v.data.toList [44] = z44 at *
              generalize Lib.index v.data.toList [59] = z59 at *
              generalize Lib.index v.data.toList [58] = z58 at *
              clear h44 h59
              go_wp2_with (first
                | (go_at_call 87; ((with_reducible refine (a44 _).mono ?_); rintro e w' ⟨rfl, hw⟩; subst w'))
                | (go_at_call 87; ((with_reducible refine (a59 _).mono ?_); rintro e w' ⟨rfl, hw⟩; subst w'))
                | (go_at_call 87; ((with_reducible refine (a58 _).mono ?_); rintro e w' ⟨rfl, hw⟩; subst w')))
              rw [HE2.out]
              go_round
              case rel => exact ⟨k + 1, by go_num, by omega, by first | rfl | trivial, rfl⟩
              case measure => simp [intOf]; omega
            by_cases h58 : (58 : UInt8) ∈ v.data.toList
            · have hq : quoteL v.data.toList = 34 :: (v.data.toList ++ [34]) := by unfold quoteL; rw [sep_58 h58]; rfl
              rw [hq] at HSP
              clear hq
              have HE2 := Lib.hid (show S ++ ((⟨#[34]⟩ : ByteArray) ++ v ++ (⟨#[34]⟩ : ByteArray)) = ⟨(preL nm l i ++ (59 :: (r.name.data.toList ++ 61 :: valsK r (k + 1)))).toArray⟩ by
                rw [HSP.out, ← HS2.out]
                conv => lhs; rw [← mk_toList v]
                simp only [mk_appL]
                simp)
              have no2 : ¬ 9223372036854775807 < (⟨#[34]⟩ : ByteArray).size + v.size := by rw [s1]; omega
              have no3 : ¬ 9223372036854775807 < ((⟨#[34]⟩ : ByteArray) ++ v).size + (⟨#[34]⟩ : ByteArray).size := by rw [ByteArray.size_append, s1]; omega
              have no4 : ¬ 9223372036854775807 < S.size + ((⟨#[34]⟩ : ByteArray) ++ v ++ (⟨#[34]⟩ : ByteArray)).size := by rw [ByteArray.size_append, ByteArray.size_append, s1]; omega
              have d44 := has_not h44
              have d59 := has_not h59
              have d58 := has_at h58
              generalize Lib.index v.data.toList [44] = z44 at *
              generalize Lib.index v.data.toList [59] = z59 at *
              generalize Lib.index v.data.toList [58] = z58 at *
              clear h44 h59 h58
              go_wp2_with (first
                | (go_at_call 87; ((with_reducible refine (a44 _).mono ?_); rintro e w' ⟨rfl, hw⟩; subst w'))
                | (go_at_call 87; ((with_reducible refine (a59 _).mono ?_); rintro e w' ⟨rfl, hw⟩; subst w'))
                | (go_at_call 87; ((with_reducible refine (a58 _).mono ?_); rintro e w' ⟨rfl, hw⟩; subst w')))
              rw [HE2.out]
              go_round
              case rel => exact ⟨k + 1, by go_num, by omega, by first | rfl | trivial, rfl⟩
              case measure => simp [intOf]; omega
            have hq : quoteL v.data.toList = v.data.toList := by unfold quoteL; rw [sep_no h44 h59 h58]; rfl
            rw [hq] at HSP
            clear hq
            have HE2 := Lib.hid (show S ++ v = ⟨(preL nm l i ++ (59 :: (r.name.data.toList ++ 61 :: valsK r (k + 1)))).toArray⟩ by
              rw [HSP.out, ← HS2.out]
              conv => lhs; rw [← mk_toList v]
              simp only [mk_appL]
              simp)
            have no4 : ¬ 9223372036854775807 < S.size + v.size := by omega
            have d44 := has_not h44
            have d59 := has_not h59
            have d58 := has_not h58
            generalize Lib.index v.data.toList [44] = z44 at *
            generalize Lib.index v.data.toList [59] = z59 at *
            generalize Lib.index v.data.toList [58] = z58 at *
            clear h44 h59 h58
            go_wp2_with (first
              | (go_at_call 87; ((with_reducible refine (a44 _).mono ?_); rintro e w' ⟨rfl, hw⟩; subst w'))
              | (go_at_call 87; ((with_reducible refine (a59 _).mono ?_); rintro e w' ⟨rfl, hw⟩; subst w'))
              | (go_at_call 87; ((with_reducible refine (a58 _).mono ?_); rintro e w' ⟨rfl, hw⟩; subst w')))
            rw [HE2.out]
            go_round
            case rel => exact ⟨k + 1, by go_num, by omega, by first | rfl | trivial, rfl⟩
            case measure => simp [intOf]; omega
          · rw [if_neg hk0] at HSP
            have hkg : decide ((0 : Int) < (k : Int)) = true := decide_eq_true (by omega)
            by_cases h44 : (44 : UInt8) ∈ v.data.toList
            · have hq : quoteL v.data.toList = 34 :: (v.data.toList ++ [34]) := by unfold quoteL; rw [sep_44 h44]; rfl
              rw [hq] at HSP
              clear hq
              have HE2 := Lib.hid (show (S ++ (⟨#[44]⟩ : ByteArray)) ++ ((⟨#[34]⟩ : ByteArray) ++ v ++ (⟨#[34]⟩ : ByteArray)) = ⟨(preL nm l i ++ (59 :: (r.name.data.toList ++ 61 :: valsK r (k + 1)))).toArray⟩ by
                rw [HSP.out, ← HS2.out]
                conv => lhs; rw [← mk_toList v]
                simp only [mk_appL]
                simp)
              have no1 : ¬ 9223372036854775807 < S.size + (⟨#[44]⟩ : ByteArray).size := by rw [s1]; omega
              have no2 : ¬ 9223372036854775807 < (⟨#[34]⟩ : ByteArray).size + v.size := by rw [s1]; omega
              have no3 : ¬ 9223372036854775807 < ((⟨#[34]⟩ : ByteArray) ++ v).size + (⟨#[34]⟩ : ByteArray).size := by rw [ByteArray.size_append, s1]; omega
              have no4 : ¬ 9223372036854775807 < (S ++ (⟨#[44]⟩ : ByteArray)).size + ((⟨#[34]⟩ : ByteArray) ++ v ++ (⟨#[34]⟩ : ByteArray)).size := by rw [ByteArray.size_append, ByteArray.size_append, ByteArray.size_append, s1, s1]; omega
              have d44 := has_at h44
              generalize Lib.index v.data.toList [44] = z44 at *
              generalize Lib.index v.data.toList [59] = z59 at *
              generalize Lib.index v.data.toList [58] = z58 at *
              clear h44
              go_wp2_with (first
                | (go_at_call 87; ((with_reducible refine (a44 _).mono ?_); rintro e w' ⟨rfl, hw⟩; subst w'))
                | (go_at_call 87; ((with_reducible refine (a59 _).mono ?_); rintro e w' ⟨rfl, hw⟩; subst w'))
                | (go_at_call 87; ((with_reducible refine (a58 _).mono ?_); rintro e w' ⟨rfl, hw⟩; subst w')))
              rw [HE2.out]
              go_round
              case rel => exact ⟨k + 1, by go_num, by omega, by first | rfl | trivial, rfl⟩
              case measure => simp [intOf]; omega
            by_cases h59 : (59 : UInt8) ∈ v.data.toList
            · have hq : quoteL v.data.toList = 34 :: (v.data.toList ++ [34]) := by unfold quoteL; rw [sep_59 h59]; rfl
              rw [hq] at HSP
              clear hq
              have HE2 := Lib.hid (show (S ++ (⟨#[44]⟩ : ByteArray)) ++ ((⟨#[34]⟩ : ByteArray) ++ v ++ (⟨#[34]⟩ : ByteArray)) = ⟨(preL nm l i ++ (59 :: (r.name.data.toList ++ 61 :: valsK r (k + 1)))).toArray⟩ by
                rw [HSP.out, ← HS2.out]
                conv => lhs; rw [← mk_toList v]
                simp only [mk_appL]
                simp)
              have no1 : ¬ 9223372036854775807 < S.size + (⟨#[44]⟩ : ByteArray).size := by rw [s1]; omega
              have no2 : ¬ 9223372036854775807 < (⟨#[34]⟩ : ByteArray).size + v.size := by rw [s1]; omega
              have no3 : ¬ 9223372036854775807 < ((⟨#[34]⟩ : ByteArray) ++ v).size + (⟨#[34]⟩ : ByteArray).size := by rw [ByteArray.size_append, s1]; omega
              have no4 : ¬ 9223372036854775807 < (S ++ (⟨#[44]⟩ : ByteArray)).size + ((⟨#[34]⟩ : ByteArray) ++ v ++ (⟨#[34]⟩ : ByteArray)).size := by rw [ByteArray.size_append, ByteArray.size_append, ByteArray.size_append, s1, s1]; omega
              have d44 := has_not h44
              have d59 := has_at h59
              generalize Lib.index v.data.toList [44] = z44 at *
              generalize Lib.index v.data.toList [59] = z59 at *
              generalize Lib.index v.data.toList [58] = z58 at *
              clear h44 h59
              go_wp2_with (first
                | (go_at_call 87; ((with_reducible refine (a44 _).mono ?_); rintro e w' ⟨rfl, hw⟩; subst w'))
                | (go_at_call 87; ((with_reducible refine (a59 _).mono ?_); rintro e w' ⟨rfl, hw⟩; subst w'))
                | (go_at_call 87; ((with_reducible refine (a58 _).mono ?_); rintro e w' ⟨rfl, hw⟩; subst w')))
              rw [HE2.out]
              go_round
              case rel => exact ⟨k + 1, by go_num, by omega, by first | rfl | trivial, rfl⟩
              case measure => simp [intOf]; omega
            by_cases h58 : (58 : UInt8) ∈ v.data.toList
            · have hq : quoteL v.data.toList = 34 :: (v.data.toList ++ [34]) := by unfold quoteL; rw [sep_58 h58]; rfl
              rw [hq] at HSP
              clear hq
              have HE2 := Lib.hid (show (S ++ (⟨#[44]⟩ : ByteArray)) ++ ((⟨#[34]⟩ : ByteArray) ++ v ++ (⟨#[34]⟩ : ByteArray)) = ⟨(preL nm l i ++ (59 :: (r.name.data.toList ++ 61 :: valsK r (k + 1)))).toArray⟩ by
                rw [HSP.out, ← HS2.out]
                conv => lhs; rw [← mk_toList v]
                simp only [mk_appL]
                simp)
              have no1 : ¬ 9223372036854775807 < S.size + (⟨#[44]⟩ : ByteArray).size := by rw [s1]; omega
              have no2 : ¬ 9223372036854775807 < (⟨#[34]⟩ : ByteArray).size + v.size := by rw [s1]; omega
              have no3 : ¬ 9223372036854775807 < ((⟨#[34]⟩ : ByteArray) ++ v).size + (⟨#[34]⟩ : ByteArray).size := by rw [ByteArray.size_append, s1]; omega
              have no4 : ¬ 9223372036854775807 < (S ++ (⟨#[44]⟩ : ByteArray)).size + ((⟨#[34]⟩ : ByteArray) ++ v ++ (⟨#[34]⟩ : ByteArray)).size := by rw [ByteArray.size_append, ByteArray.size_append, ByteArray.size_append, s1, s1]; omega
              have d44 := has_not h44
              have d59 := has_not h59
              have d58 := has_at h58
              generalize Lib.index v.data.toList [44] = z44 at *
              generalize Lib.index v.data.toList [59] = z59 at *
              generalize Lib.index v.data.toList [58] = z58 at *
              clear h44 h59 h58
              go_wp2_with (first
                | (go_at_call 87; ((with_reducible refine (a44 _).mono ?_); rintro e w' ⟨rfl, hw⟩; subst w'))
                | (go_at_call 87; ((with_reducible refine (a59 _).mono ?_); rintro e w' ⟨rfl, hw⟩; subst w'))
                | (go_at_call 87; ((with_reducible refine (a58 _).mono ?_); rintro e w' ⟨rfl, hw⟩; subst w')))
              rw [HE2.out]
              go_round
              case rel => exact ⟨k + 1, by go_num, by omega, by first | rfl | trivial, rfl⟩
              case measure => simp [intOf]; omega
            have hq : quoteL v.data.toList = v.data.toList := by unfold quoteL; rw [sep_no h44 h59 h58]; rfl
            rw [hq] at HSP
            clear hq
            have HE2 := Lib.hid (show (S ++ (⟨#[44]⟩ : ByteArray)) ++ v = ⟨(preL nm l i ++ (59 :: (r.name.data.toList ++ 61 :: valsK r (k + 1)))).toArray⟩ by
              rw [HSP.out, ← HS2.out]
              conv => lhs; rw [← mk_toList v]
              simp only [mk_appL]
              simp)
            have no1 : ¬ 9223372036854775807 < S.size + (⟨#[44]⟩ : ByteArray).size := by rw [s1]; omega
            have no4 : ¬ 9223372036854775807 < (S ++ (⟨#[44]⟩ : ByteArray)).size + v.size := by rw [ByteArray.size_append, s1]; omega
            have d44 := has_not h44
            have d59 := has_not h59
            have d58 := has_not h58
            generalize Lib.index v.data.toList [44] = z44 at *
            generalize Lib.index v.data.toList [59] = z59 at *
            generalize Lib.index v.data.toList [58] = z58 at *
            clear h44 h59 h58
            go_wp2_with (first
              | (go_at_call 87; ((with_reducible refine (a44 _).mono ?_); rintro e w' ⟨rfl, hw⟩; subst w'))
              | (go_at_call 87; ((with_reducible refine (a59 _).mono ?_); rintro e w' ⟨rfl, hw⟩; subst w'))
              | (go_at_call 87; ((with_reducible refine (a58 _).mono ?_); rintro e w' ⟨rfl, hw⟩; subst w')))
            rw [HE2.out]
            go_round
            case rel => exact ⟨k + 1, by go_num, by omega, by first | rfl | trivial, rfl⟩
            case measure => simp [intOf]; omega
        · obtain rfl : k = r.k := by omega
          have HE3 := Lib.hid (show preL nm l i ++ (59 :: (r.name.data.toList ++ 61 :: valsK r r.k)) = preL nm l (i + 1) by rw [HST.out, valsK_all (by rw [HKL.out]; exact Nat.le_refl _)])
          rw [HE3.out]
          clear hvl2
          go_wp2
          go_round
          case rel => exact ⟨i + 1, by go_num, by omega, by first | rfl | trivial, rfl⟩
          case measure => simp [intOf]; omega
    · obtain rfl : i = n := by omega
      have HE := Lib.hid (show (⟨(preL nm l i).toArray⟩ : ByteArray) ++ ⟨#[58]⟩ ++ vl = ⟨(textL (proOf nm l vl)).toArray⟩ by
        rw [← preL_all (nm := nm) (vl := vl) (l := l) (i := i) (by rw [HL.out]; exact Nat.le_refl _)]
        conv => lhs; rw [← mk_toList vl]
        simp only [mk_appL]
        simp)
      generalize (⟨(preL nm l i).toArray⟩ : ByteArray) = A at *
      have no1 : ¬ 9223372036854775807 < A.size + (⟨#[58]⟩ : ByteArray).size := by rw [s1]; omega
      have no2 : ¬ 9223372036854775807 < (A ++ (⟨#[58]⟩ : ByteArray)).size + vl.size := by rw [ByteArray.size_append, s1]; omega
      go_wp2
      go_ret
      exact ⟨by rw [← HE.out]; rfl, HB.out⟩

end Go.Proofs.YtlfhhnjdfpgadaaGreatDoor
