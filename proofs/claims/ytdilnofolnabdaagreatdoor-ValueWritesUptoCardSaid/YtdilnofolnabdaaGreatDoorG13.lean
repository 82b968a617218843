/-
  The program's own functions of layer 13: a duration, read.
-/
import Derived.Test.YtdilnofolnabdaaGreatDoorG12
namespace Go.Proofs.YtdilnofolnabdaaGreatDoor
open Go.RowKit Go.Shelf
attribute [local go_sem] Oper.semAt_some

theorem cntP_bound {c : UInt8} {ah : List UInt8} (h : (cntP c ah).2 = true) : 0 ≤ (cntP c ah).1 ∧ (cntP c ah).1 ≤ 9999999 := by
  unfold cntP at h ⊢
  split
  · simp
  · rename_i hu
    rw [if_neg hu, Bool.and_eq_true, decide_eq_true_iff] at h
    obtain ⟨n, _, hb, _, e⟩ := numV_true h.1
    have hb7 : n < 10 ^ 7 := Nat.lt_of_lt_of_le hb (Nat.pow_le_pow_right (by omega) h.2)
    rw [e]; omega
theorem behP_rk {c d : UInt8} (h : c ∈ behP d) : rkP c + 1 ≤ rkP d ∧ let0 d = d ∧ unitP d ≤ 604800 ∧ 0 ≤ unitP d := by
  unfold behP at h
  by_cases e1 : d = 87
  · simp [e1] at h; subst h; subst e1; decide
  by_cases e2 : d = 68
  · simp [e2] at h; subst h; subst e2; decide
  by_cases e3 : d = 84
  · simp [e3] at h; subst e3; rcases h with rfl | rfl <;> decide
  by_cases e4 : d = 72
  · simp [e4] at h; subst h; subst e4; decide
  by_cases e5 : d = 77
  · simp [e5] at h; subst e5; rcases h with rfl | rfl <;> decide
  by_cases e6 : d = 83
  · simp [e6] at h; subst e6; rcases h with rfl | rfl <;> decide
  simp [e1, e2, e3, e4, e5, e6] at h
/-- Between two rounds: the machine's state. -/
structure SV (H B : Nat) (w : World) (st : UInt8 × Int) (W : World) : Prop where
  secs : Boxed W B 2 (.int .i64 st.2)
  last : R3 W (B + 1) (let0 st.1).toNat (behB st.1) (unitP st.1)
  known : let0 st.1 = st.1
  low : 0 ≤ st.2
  high : st.2 ≤ rkP st.1 * 6048000000000
  bel : Below H w W
  top : B + 3 ≤ W.heap.size
theorem SV.step {H B : Nat} {w W W' : World} {st : UInt8 × Int} (h : SV H B w st W) (hH : H ≤ W.heap.size) (hb : Below W.heap.size W W') : SV H B w st W' :=
  ⟨(hb.block _ h.secs.lt).trans h.secs, h.last.step hb, h.known, h.low, h.high, h.bel.trans (hb.mono hH), Nat.le_trans h.top hb.size⟩
def InvP (H B : Nat) (w : World) (pre : List Part) (W : World) : Prop := ∃ st, runP (80, 0) (pre.map prt) = some st ∧ SV H B w st W
def OutP (H B k : Nat) (w : World) (c : Code) (pre : List Part) (W : World) : Prop :=
  c = .exit k ∧ runP (80, 0) (pre.map prt) = none ∧ R3 W (B + 1) 0 ⟨#[]⟩ 0 ∧ Below H w W
theorem durV_cut (l : List UInt8) : durV l = durB (if (cutS l).1 < 0 then -1 else 1) (cutS l).2 := by
  unfold durV cutS
  split <;> simp
theorem cutS_len (l : List UInt8) : (cutS l).2.length ≤ l.length := by
  unfold cutS
  split <;> simp
theorem cutS_sg (l : List UInt8) : (cutS l).1 = 0 ∨ (cutS l).1 = 1 ∨ (cutS l).1 = -1 := by
  unfold cutS
  split <;> simp
theorem keepV {B : Nat} {W W' : World} (hb : Below W.heap.size W W') : KeepsFrom B W W' := ⟨hb.size, fun k _o _ hk _ => (hb.block k (Array.getElem?_eq_some_iff.1 hk).1).trans hk⟩
theorem keepV_put3 (B : Nat) (W : World) (g : Nat) (v0 v1 v2 : Value) : KeepsFrom B W (put3 W g v0 v1 v2) :=
  (((KeepsOthers.setCell W _ _).from B).trans ((KeepsOthers.setCell _ _ _).from B)).trans ((KeepsOthers.setCell _ _ _).from B)
theorem cells_kept {X Y' : World} {row : Option Nat} {B : Nat} (hg : X.grownBy Y' row) (hr : ∀ r, row = some r → B ≤ r ∧ ∃ o : Obj, X.heap[r]? = some o ∧ o.isCells = false) {b : Nat} {C : Array Value} {T : TypeId} {f : Nat × Nat} (ho : X.heap[b]? = some (.cells C T f)) : Y'.heap[b]? = some (.cells C T f) :=
  (hg.block b (Array.getElem?_eq_some_iff.1 ho).1 (fun e => by
    obtain ⟨_, o', ho', hc'⟩ := hr b e.symm
    rw [ho] at ho'
    injection ho' with ho'
    subst ho'
    cases hc')).trans ho
set_option maxRecDepth 100000 in
set_option maxHeartbeats 2000000 in
theorem pDur_any (s : ByteArray) (hs : s.size ≤ 1048576) (w : World) (hv : VV w) :
    Calls Tryz.prog 30 #[.string s] w fun e w' => e = .returned (.tuple #[.int .i64 (durV s.data.toList).1, .int .i64 (durV s.data.toList).2]) ∧ Below w.heap.size w w' := by
  have hmx : Tryz.prog.follows .mixedOrders = true := by kernel_rfl
  have c1 := cutSign_any s hs w
  obtain ⟨⟨sg, r⟩, hcs⟩ : ∃ p, cutS s.data.toList = p := ⟨_, rfl⟩
  have HD := Lib.hid (durV_cut s.data.toList)
  have HSG := cutS_sg s.data.toList
  rw [hcs] at HD HSG
  have c2 := fun W => Tryz.strings_CutPrefix ⟨r.toArray⟩ ⟨#[80]⟩ W
  have HVV := Lib.hid hv
  rw [hcs] at c1
  rcases r with _ | ⟨p, t⟩
  · have c2' : ∀ W, Calls Tryz.prog 49 #[.string ⟨#[]⟩, .string ⟨#[80]⟩] W fun e w' => e = .returned (.tuple #[.string ⟨#[]⟩, .bool false]) ∧ w' = W := c2
    have HDV : Hid (durV s.data.toList = (0, 10)) := Lib.hid (by rw [HD.out]; rfl)
    clear c2 HD HSG hcs
    go_enter Tryz.func30, Tryz.ntmps30
    go_wp2
    go_step3
    go_wp2_with (first
      | (go_at_call 48; refine c1.mono ?_; rintro e w1 ⟨rfl, hb1⟩; clear c1)
      | (go_at_call 49; refine (c2' _).mono ?_; rintro e w' ⟨rfl, hw⟩; subst w'))
    try rw [Exit.noGoto_ret]
    go_ret2
    exact ⟨by rw [HDV.out]; rfl, hb1⟩
  · by_cases hp : p = 80
    · subst hp
      have c2' : ∀ W, Calls Tryz.prog 49 #[.string ⟨(80 :: t).toArray⟩, .string ⟨#[80]⟩] W fun e w' => e = .returned (.tuple #[.string ⟨t.toArray⟩, .bool true]) ∧ w' = W := by
        intro W
        refine (c2 W).mono ?_
        rintro e w' ⟨he, hw⟩
        exact ⟨he.trans (by simp [Lib.trimPrefix, Lib.hasPrefix, List.isPrefixOf]), hw⟩
      clear c2
      refine (callsIn_wide (n := 3)).1 ?_
      refine callsIn_of_wp_marks Tryz.func30 rfl trivial ?_ rfl
      refine wpIn_wide.2 ?_
      simp only [Tryz.ntmps30, List.size_toArray, List.length_cons, List.length_nil, Nat.reduceAdd, Nat.reduceSub, Array.replicate_succ, Array.replicate_zero, List.push_toArray, List.append_toArray, List.nil_append, List.cons_append]
      go_wp2
      go_step3
      go_wp2_with (first
        | (go_at_call 48; refine c1.mono ?_; rintro e w1 ⟨rfl, hb1⟩; clear c1)
        | (go_at_call 49; refine (c2' _).mono ?_; rintro e w' ⟨rfl, hw⟩; subst w')
        | (go_at_call 50; refine (partOf_any 80 _ (HVV.out.step hb1)).mono ?_; rintro e w2 ⟨rfl, hb2⟩; unfold partV)
        | (go_at_call 51; refine ((callsIn_wide (n := 2)).1 (partsFn_in 2 _ _)).mono ?_; rintro e w' ⟨rfl, rfl⟩))
      go_step3
      go_wp2_with (first
        | (go_at_call 48; refine c1.mono ?_; rintro e w1 ⟨rfl, hb1⟩; clear c1)
        | (go_at_call 49; refine (c2' _).mono ?_; rintro e w' ⟨rfl, hw⟩; subst w')
        | (go_at_call 50; refine (partOf_any 80 _ (HVV.out.step hb1)).mono ?_; rintro e w2 ⟨rfl, hb2⟩; unfold partV)
        | (go_at_call 51; refine ((callsIn_wide (n := 2)).1 (partsFn_in 2 _ _)).mono ?_; rintro e w' ⟨rfl, rfl⟩))
      refine (wpIn_wide (n := 3)).1 ?_
      have hB2 : Below w.heap.size w w2 := bstep hb1 hb2
      have hsz := hB2.size
      have hB0 : Below w.heap.size w (((w2.alloc (.cells #[.int .i64 0] 2)).alloc (.cells #[.int .u8 ((let0 80).toNat : Int), .string (behB 80), .int .i64 (unitP 80)] 67)).alloc (.cells #[.string ⟨t.toArray⟩] 9)) :=
        ((hB2.alloc hsz _).alloc (by simp; omega) _).alloc (by simp; omega) _
      have bS := ((Boxed.new w2 2 (.int .i64 0)).alloc (.cells #[.int .u8 ((let0 80).toNat : Int), .string (behB 80), .int .i64 (unitP 80)] 67)).alloc (.cells #[.string ⟨t.toArray⟩] 9)
      have bL := (R3.new (w2.alloc (.cells #[.int .i64 0] 2)) (let0 80).toNat (behB 80) (unitP 80)).step ((Below.refl _ _).alloc (Nat.le_refl _) (.cells #[.string ⟨t.toArray⟩] 9))
      have bY := Boxed.new ((w2.alloc (.cells #[.int .i64 0] 2)).alloc (.cells #[.int .u8 ((let0 80).toNat : Int), .string (behB 80), .int .i64 (unitP 80)] 67)) 9 (.string ⟨t.toArray⟩)
      simp only [World.size_alloc] at bY bL
      have htl : (⟨t.toArray⟩ : ByteArray).size ≤ 1048576 := by
        have h1 := listB s
        have h2 := cutS_len s.data.toList
        rw [hcs] at h2
        rw [← listB, mk_listV]
        simp only [List.length_cons] at h2
        omega
      have hpl : (⟨t.toArray⟩ : ByteArray).data.toList = t := mk_listV t
      refine wpIn_rangeFunc_ownG rfl (by omega) (gf := 73) (lb := #[.pointer (some ⟨w2.heap.size + 1 + 1, 0, none⟩)]) rfl trivial (enters_of Tryz.func73 (by kernel_rfl) rfl)
        (parts_stops 2 (by omega) (w2.heap.size + 1 + 1) w.heap.size ⟨t.toArray⟩ htl _ (by simp) bY.cell) KpV.trans (kpV_put (by simp; omega) (by simp)) (Below.refl _ _) (fun _ => rfl)
        (InvP w.heap.size w2.heap.size w) (OutP w.heap.size w2.heap.size 0 w)
        ?own ?ownx ⟨(80, 0), rfl, ⟨bS, bL, rfl, Int.le_refl _, by decide, hB0, by simp⟩⟩
        (fun x => { tmps := #[.string s, undef, .int .i64 0, .int .i64 0, .int .i64 sg, .string ⟨t.toArray⟩, .bool true, .pointer (some ⟨w2.heap.size, 0, none⟩), .pointer (some ⟨w2.heap.size + 1, 0, none⟩), .int .u8 (x.1.1.toNat : Int), .string x.1.2, undef, undef, undef, .tuple #[.int .i64 sg, .string ⟨(80 :: t).toArray⟩], .string s, .tuple #[.int .i64 sg, .string ⟨(80 :: t).toArray⟩], .int .i64 sg, .string ⟨(80 :: t).toArray⟩, .tuple #[.string ⟨t.toArray⟩, .bool true], .string ⟨(80 :: t).toArray⟩, .tuple #[.string ⟨t.toArray⟩, .bool true], .string ⟨t.toArray⟩, .bool true, .bool true, .bool false, .agg #[.int .u8 ((let0 80).toNat : Int), .string (behB 80), .int .i64 (unitP 80)], .string ⟨t.toArray⟩, .func (.func 73) #[] #[.pointer (some ⟨w2.heap.size + 1 + 1, 0, none⟩)], .int .u8 (x.1.1.toNat : Int), .string x.1.2, undef, undef, undef, undef, undef, undef, undef, undef, undef, undef, undef, undef, undef, undef, undef, undef, undef, undef, undef, undef, undef, undef, undef, undef, undef, undef, undef, undef, undef, undef, undef, undef, undef], defers := [] }) ?assign ?body ?done ?stop
      case own =>
        rintro pre X Y row ⟨st, h0, h1⟩ hg hr
        exact ⟨st, h0, ⟨cells_kept hg hr h1.secs, cells_kept hg hr h1.last, h1.known, h1.low, h1.high, ownFrom_below (β := Unit) (n₀ := w.heap.size) (w₀ := w) (Nat.le_refl _) (by simp; omega) () X Y row h1.bel hg hr, Nat.le_trans h1.top hg.size⟩⟩
      case ownx =>
        rintro c pre X Y row ⟨h0, h1, h2, h3⟩ hg hr
        exact ⟨h0, h1, cells_kept hg hr h2, ownFrom_below (β := Unit) (n₀ := w.heap.size) (w₀ := w) (Nat.le_refl _) (by simp; omega) () X Y row h3 hg hr⟩
      case assign =>
        intro l x W K hK
        gi_wp2
        exact hK
      case body =>
        rintro l pre ⟨⟨C, A⟩, hA⟩ W ⟨⟨c, a⟩, hrun, hS⟩ hlt
        simp only at hS hA
        have hk : let0 c = c := hS.known
        have HV1 := Lib.hid (HVV.out.step (hS.bel))
        have HS := Lib.hid hS
        have HRUN := Lib.hid hrun
        have cc := fun W' => count_any C A hA W'
        have cf := fun W' => follow_any C c W'
        rw [hk] at cf
        have HST : Hid (runP (80, 0) ((pre ++ [(⟨(C, A), hA⟩ : Part)]).map prt) = stepP (c, a) (C, A.data.toList)) := Lib.hid (by
          rw [List.map_append, runP_app, HRUN.out]
          show (stepP (c, a) (C, A.data.toList)).bind (fun s => some s) = _
          cases stepP (c, a) (C, A.data.toList) <;> rfl)
        have HCB := Lib.hid (cntP_bound (c := C) (ah := A.data.toList))
        have HSP : Hid (stepP (c, a) (C, A.data.toList) = if (cntP C A.data.toList).2 = true ∧ c ∈ behP C then some (C, a + (cntP C A.data.toList).1 * unitP C) else none) := Lib.hid rfl
        generalize (cntP C A.data.toList).1 = q at cc HCB HSP
        generalize (cntP C A.data.toList).2 = ok at cc HCB HSP
        have HW2 := Lib.hid hsz
        clear hS hrun hk hB0 bS bL bY hlt hB2 hsz
        dsimp only
        have HSZ := Lib.hid (show w.heap.size ≤ W.heap.size from HS.out.bel.size)
        cases ok
        · gi_wp2_with (first
            | (refine ⟨trivial, ?_⟩; gi_at_call 50; refine (CallsIn.inRound l (callsIn_wide.2 (partOf_any C _ HV1.out))).mono ?_; rintro e W1 ⟨rfl, hb1⟩; unfold partV; obtain ⟨y0, y1, y2⟩ := (R3.new W1 (let0 C).toNat (behB C) (unitP C)).cells; have hne : ¬ w2.heap.size = W1.heap.size := (by have h1 := HS.out.secs.lt; have h2 := hb1.size; omega); have hne2 : ¬ W1.heap.size = w2.heap.size := fun e => hne e.symm)
            | (refine ⟨trivial, ?_⟩; gi_at_call 52; refine (CallsIn.inRound l (callsIn_wide.2 (cc _))).mono ?_; rintro e W2 ⟨rfl, hb2⟩
               have hR := (R3.new W1 (let0 C).toNat (behB C) (unitP C)).step hb2
               have hb3 := bstep (bstep hb1 ((Below.refl _ W1).alloc (Nat.le_refl _) (.cells #[.int .u8 ((let0 C).toNat : Int), .string (behB C), .int .i64 (unitP C)] 67))) hb2
               have hS2 := HS.out.step HSZ.out hb3
               obtain ⟨r0, r1, r2⟩ := hR.cells
               obtain ⟨l0, l1, l2⟩ := hS2.last.cells
               have lf := hS2.last.frozen
               have HR2 := Lib.hid hR
               have HS2 := Lib.hid hS2
               have HB3 := Lib.hid hb3
               clear hR hS2 hb1 hb2 hb3 y0 y1 y2)
            | (refine ⟨trivial, ?_⟩; gi_at_call 53; refine (CallsIn.inRound l (callsIn_wide.2 (cf _))).mono ?_; rintro e W3 ⟨rfl, hb4⟩
               clear r0 r1 r2 l0 l1 l2 lf
               have HS3 := Lib.hid (HS2.out.step (Nat.le_trans HSZ.out HB3.out.size) hb4)
               have HB4 := Lib.hid (bstep HB3.out hb4)
               obtain ⟨r0, r1, r2⟩ := (HR2.out.step hb4).cells
               obtain ⟨l0, l1, l2⟩ := HS3.out.last.cells
               have lf := HS3.out.last.frozen
               have s0 := HS3.out.secs.cell
               have sf := HS3.out.secs.frozen
               clear hb4))
          refine ⟨(keepV HB3.out).trans (keepV_put3 _ _ _ _ _ _), rfl, ?_, ?_, ?_⟩
          · rw [HST.out, HSP.out, if_neg (by simp)]
          · exact heap_put3 HS2.out.last
          · exact HS2.out.bel.trans (below_put3 (by have := HW2.out; omega) _ _ _)
        · by_cases hm : c ∈ behP C
          · have hq := HCB.out rfl
            have hrk := behP_rk hm
            have hdm : decide (c ∈ behP C) = true := by simp [hm]
            simp only [hdm] at cf
            have hlo := HS.out.low
            have hhi := HS.out.high
            simp only at hlo hhi
            have hk5 := rkP_le c
            have hkk := rkP_le C
            have hmul : 0 ≤ q * unitP C ∧ q * unitP C ≤ 6047999395200 := by
              obtain ⟨_, _, h1, h2⟩ := hrk
              constructor
              · exact Int.mul_nonneg hq.1 h2
              · calc q * unitP C ≤ 9999999 * 604800 := Int.mul_le_mul hq.2 h1 h2 (by omega)
                  _ = 6047999395200 := by decide
            have HMM := Lib.hid hm
            have HQQ := Lib.hid (And.intro hmul (And.intro hrk (And.intro hlo hhi)))
            have n1 : -9223372036854775808 ≤ q * unitP C ∧ q * unitP C < 9223372036854775808 := by omega
            have n2 : -9223372036854775808 ≤ a + q * unitP C ∧ a + q * unitP C < 9223372036854775808 := by omega
            clear hm hdm hq hrk hlo hhi hk5 hkk hmul
            gi_wp2_with (first
              | (refine ⟨trivial, ?_⟩; gi_at_call 50; refine (CallsIn.inRound l (callsIn_wide.2 (partOf_any C _ HV1.out))).mono ?_; rintro e W1 ⟨rfl, hb1⟩; unfold partV; obtain ⟨y0, y1, y2⟩ := (R3.new W1 (let0 C).toNat (behB C) (unitP C)).cells; have hne : ¬ w2.heap.size = W1.heap.size := (by have h1 := HS.out.secs.lt; have h2 := hb1.size; omega); have hne2 : ¬ W1.heap.size = w2.heap.size := fun e => hne e.symm)
              | (refine ⟨trivial, ?_⟩; gi_at_call 52; refine (CallsIn.inRound l (callsIn_wide.2 (cc _))).mono ?_; rintro e W2 ⟨rfl, hb2⟩
                 have hR := (R3.new W1 (let0 C).toNat (behB C) (unitP C)).step hb2
                 have hb3 := bstep (bstep hb1 ((Below.refl _ W1).alloc (Nat.le_refl _) (.cells #[.int .u8 ((let0 C).toNat : Int), .string (behB C), .int .i64 (unitP C)] 67))) hb2
                 have hS2 := HS.out.step HSZ.out hb3
                 obtain ⟨r0, r1, r2⟩ := hR.cells
                 obtain ⟨l0, l1, l2⟩ := hS2.last.cells
                 have lf := hS2.last.frozen
                 have HR2 := Lib.hid hR
                 have HS2 := Lib.hid hS2
                 have HB3 := Lib.hid hb3
                 clear hR hS2 hb1 hb2 hb3 y0 y1 y2)
              | (refine ⟨trivial, ?_⟩; gi_at_call 53; refine (CallsIn.inRound l (callsIn_wide.2 (cf _))).mono ?_; rintro e W3 ⟨rfl, hb4⟩
                 clear r0 r1 r2 l0 l1 l2 lf
                 have HS3 := Lib.hid (HS2.out.step (Nat.le_trans HSZ.out HB3.out.size) hb4)
                 have HB4 := Lib.hid (bstep HB3.out hb4)
                 obtain ⟨r0, r1, r2⟩ := (HR2.out.step hb4).cells
                 obtain ⟨l0, l1, l2⟩ := HS3.out.last.cells
                 have lf := HS3.out.last.frozen
                 have s0 := HS3.out.secs.cell
                 have sf := HS3.out.secs.frozen
                 clear hb4))
            obtain ⟨hmul, hrk, hlo, hhi⟩ := HQQ.out
            have hlt3 := HS3.out.secs.lt
            refine ⟨(keepV HB4.out).trans (((KeepsOthers.setCell _ _ _).from _).trans (keepV_put3 _ _ _ _ _ _)), ⟨?_, ?_⟩, ⟨(C, a + q * unitP C), ?_, ⟨?_, ?_, hrk.2.1, ?_, ?_, ?_, ?_⟩⟩⟩
            · exact ((HB4.out.mono HSZ.out).setCell (p := ⟨w2.heap.size, 0, none⟩) HW2.out _).trans (below_put3 (by have := HW2.out; omega) _ _ _)
            · refine (put3_other (by omega) _ _ _).trans ((Below.heap_setCell _ ⟨w2.heap.size, 0, none⟩ _ _ (by show w2.heap.size + 1 + 1 ≠ w2.heap.size; omega)).trans (HB4.out.block _ ?_))
              have := HS.out.top
              omega
            · rw [HST.out, HSP.out, if_pos ⟨by trivial, HMM.out⟩]
            · exact (put3_other (by omega) _ _ _).trans (HS3.out.secs.set _)
            · exact heap_put3 ((Below.heap_setCell _ ⟨w2.heap.size, 0, none⟩ _ _ (by show w2.heap.size + 1 ≠ w2.heap.size; omega)).trans HS3.out.last)
            · simp only; omega
            · have h1 := hrk.1
              simp only
              omega
            · exact (HS3.out.bel.setCell (p := ⟨w2.heap.size, 0, none⟩) HW2.out _).trans (below_put3 (by have := HW2.out; omega) _ _ _)
            · have := HS3.out.top
              simpa using this
          · have hdm : decide (c ∈ behP C) = false := by simp [hm]
            simp only [hdm] at cf
            have HMM := Lib.hid hm
            clear hm hdm
            gi_wp2_with (first
              | (refine ⟨trivial, ?_⟩; gi_at_call 50; refine (CallsIn.inRound l (callsIn_wide.2 (partOf_any C _ HV1.out))).mono ?_; rintro e W1 ⟨rfl, hb1⟩; unfold partV; obtain ⟨y0, y1, y2⟩ := (R3.new W1 (let0 C).toNat (behB C) (unitP C)).cells; have hne : ¬ w2.heap.size = W1.heap.size := (by have h1 := HS.out.secs.lt; have h2 := hb1.size; omega); have hne2 : ¬ W1.heap.size = w2.heap.size := fun e => hne e.symm)
              | (refine ⟨trivial, ?_⟩; gi_at_call 52; refine (CallsIn.inRound l (callsIn_wide.2 (cc _))).mono ?_; rintro e W2 ⟨rfl, hb2⟩
                 have hR := (R3.new W1 (let0 C).toNat (behB C) (unitP C)).step hb2
                 have hb3 := bstep (bstep hb1 ((Below.refl _ W1).alloc (Nat.le_refl _) (.cells #[.int .u8 ((let0 C).toNat : Int), .string (behB C), .int .i64 (unitP C)] 67))) hb2
                 have hS2 := HS.out.step HSZ.out hb3
                 obtain ⟨r0, r1, r2⟩ := hR.cells
                 obtain ⟨l0, l1, l2⟩ := hS2.last.cells
                 have lf := hS2.last.frozen
                 have HR2 := Lib.hid hR
                 have HS2 := Lib.hid hS2
                 have HB3 := Lib.hid hb3
                 clear hR hS2 hb1 hb2 hb3 y0 y1 y2)
              | (refine ⟨trivial, ?_⟩; gi_at_call 53; refine (CallsIn.inRound l (callsIn_wide.2 (cf _))).mono ?_; rintro e W3 ⟨rfl, hb4⟩
                 clear r0 r1 r2 l0 l1 l2 lf
                 have HS3 := Lib.hid (HS2.out.step (Nat.le_trans HSZ.out HB3.out.size) hb4)
                 have HB4 := Lib.hid (bstep HB3.out hb4)
                 obtain ⟨r0, r1, r2⟩ := (HR2.out.step hb4).cells
                 obtain ⟨l0, l1, l2⟩ := HS3.out.last.cells
                 have lf := HS3.out.last.frozen
                 have s0 := HS3.out.secs.cell
                 have sf := HS3.out.secs.frozen
                 clear hb4))
            refine ⟨(keepV HB4.out).trans (keepV_put3 _ _ _ _ _ _), rfl, ?_, ?_, ?_⟩
            · rw [HST.out, HSP.out, if_neg (fun h => HMM.out h.2)]
            · exact heap_put3 HS3.out.last
            · exact HS3.out.bel.trans (below_put3 (by have := HW2.out; omega) _ _ _)
      case done =>
        rintro D ys W hD hys ⟨⟨c, a⟩, hrun, hS⟩ hK
        rw [hpl] at hys
        rw [hys] at hrun
        have HG : Hid (goP 80 0 t = if unitP c = 0 then none else some a) := Lib.hid (by unfold goP; rw [hrun]; rfl)
        have hbnd : 0 ≤ a ∧ a ≤ 30240000000000 := by
          have h1 := hS.low
          have h2 := hS.high
          have h3 := rkP_le c
          simp only at h1 h2
          omega
        have HBB := Lib.hid (hS.bel.trans (belowV_put (z := w.heap.size) (Nat.le_refl _) (by simp at hD; omega) W _ (.deferred none) hK rfl))
        obtain ⟨l0, l1, l2⟩ := hS.last.cells
        have s0 := hS.secs.cell
        simp only at l0 l1 l2 s0
        have HDV : Hid (durV s.data.toList = if unitP c = 0 then (0, 10) else ((if sg < 0 then -1 else 1) * a, 0)) := Lib.hid (by
          rw [HD.out, durB]
          simp only [HG.out]
          by_cases h : unitP c = 0
          · rw [if_pos h, if_pos h]
          · rw [if_neg h, if_neg h])
        clear hS hys hrun hB0 bS bL bY HG hD hpl htl hsz hB2
        by_cases hu : unitP c = 0
        · rw [hu] at l2 HDV
          rw [if_pos rfl] at HDV
          clear hu hbnd
          go_wp2
          try rw [Exit.noGoto_ret]
          refine ⟨by simp, .inl ⟨_, _, rfl, run_takeDeferred hK, ?_⟩⟩
          exact ⟨_, results_tmp2 rfl _ _ _, by rw [HDV.out]; rfl, HBB.out⟩
        · rw [if_neg hu] at HDV
          have hub : (unitP c == 0) = false := by rw [beq_eq_false_iff_ne]; exact hu
          by_cases hsg : sg < 0
          · rw [if_pos hsg] at HDV
            clear HSG hu
            go_wp2
            try rw [Exit.noGoto_ret]
            refine ⟨by simp, .inl ⟨_, _, rfl, run_takeDeferred hK, ?_⟩⟩
            refine ⟨_, results_tmp2 rfl _ _ _, ?_, HBB.out⟩
            rw [HDV.out, Int.neg_one_mul]
            rfl
          · rw [if_neg hsg] at HDV
            clear HSG hu
            go_wp2
            try rw [Exit.noGoto_ret]
            refine ⟨by simp, .inl ⟨_, _, rfl, run_takeDeferred hK, ?_⟩⟩
            refine ⟨_, results_tmp2 rfl _ _ _, ?_, HBB.out⟩
            rw [HDV.out, Int.one_mul]
            rfl
      case stop =>
        rintro D c pre W hD hSp ⟨rfl, hrun, hL, hB⟩ hK
        rw [hpl] at hSp
        have HDV : Hid (durV s.data.toList = (0, 10)) := Lib.hid (by
          obtain ⟨rest, hrest⟩ := hSp
          rw [HD.out, durB]
          have : goP 80 0 t = none := by unfold goP; rw [← hrest, runP_app, hrun]; rfl
          simp only [this])
        have HBB := Lib.hid (hB.trans (belowV_put (z := w.heap.size) (Nat.le_refl _) (by simp at hD; omega) W _ (.deferred none) hK rfl))
        obtain ⟨l0, l1, l2⟩ := hL.cells
        clear hL hrun hSp hB hB0 bS bL bY hD hpl htl hsz hB2
        refine wpIn_wide.2 (wp_exit ?_)
        go_wp2
        try rw [Exit.noGoto_ret]
        refine ⟨by simp, .inl ⟨_, _, rfl, run_takeDeferred hK, ?_⟩⟩
        exact ⟨_, results_tmp2 rfl _ _ _, by rw [HDV.out]; rfl, HBB.out⟩
    · have hpp : (80 == p) = false := by rw [beq_eq_false_iff_ne]; exact fun h => hp h.symm
      have hx1 : Lib.hasPrefix (⟨(p :: t).toArray⟩ : ByteArray).data.toList (⟨#[80]⟩ : ByteArray).data.toList = false := by
        show [80].isPrefixOf (p :: t) = false
        simp [List.isPrefixOf, hpp]
      have hx2 : Lib.trimPrefix (⟨(p :: t).toArray⟩ : ByteArray).data.toList (⟨#[80]⟩ : ByteArray).data.toList = p :: t := by unfold Lib.trimPrefix; rw [hx1]; rfl
      simp only [hx1, hx2] at c2
      have HDV : Hid (durV s.data.toList = (0, 10)) := Lib.hid (by
        rw [HD.out]
        show durB _ (p :: t) = _
        unfold durB
        split
        · rename_i e; injection e with e1 e2; exact absurd e1 hp
        · rfl)
      clear HD HSG hcs hpp hx1 hx2
      go_enter Tryz.func30, Tryz.ntmps30
      go_wp2
      go_step3
      go_wp2_with (first
        | (go_at_call 48; refine c1.mono ?_; rintro e w1 ⟨rfl, hb1⟩; clear c1)
        | (go_at_call 49; refine (c2 _).mono ?_; rintro e w' ⟨rfl, hw⟩; subst w'))
      try rw [Exit.noGoto_ret]
      go_ret2
      exact ⟨by rw [HDV.out]; rfl, hb1⟩
end Go.Proofs.YtdilnofolnabdaaGreatDoor
