/-
  A deed's image: the statement's own turned.
-/
import Derived.Test.YtlpijikhbjkmfaaG01
import Derived.Test.YtlpijikhbjkmfaaG02
namespace Go.Proofs.Ytlpijikhbjkmfaa
open Go.RowKit

/-- Numbers of any sign as the cells of a row. -/
def encZ (l : List Int) : List Value := l.map fun a => .int .i64 a
theorem encZ_length (l : List Int) : (encZ l).length = l.length := by simp [encZ]
theorem encZ_get {l : List Int} {k : Nat} (hk : k < l.length) : (encZ l)[k]? = some (.int .i64 (l.getD k 0)) := by simp [encZ, hk]
theorem Reads.zed {w : World} {B n : Nat} {A : Option Addr} {l : List Int} (h : Reads w B 1 A n (encZ l)) {k : Nat} (hk : k < n) : ∃ b o, A = some ⟨b, o, none⟩ ∧ b < B ∧ w.cell? ⟨b, o + k, none⟩ = some (.int .i64 (l.getD k 0)) := by
  obtain ⟨b, o, e, hb, hc⟩ := h.2 (by omega)
  have := h.1
  rw [encZ_length] at this
  exact ⟨b, o, e, hb, hc k _ (encZ_get (by omega))⟩
theorem turnZ_snoc (img : List ByteArray) (by_ : Nat) (ats : List Int) (j : Nat) (h : j < ats.length) : turnZ img by_ (ats.take (j + 1)) = turnAt by_ (turnZ img by_ (ats.take j)) (ats.getD j 0) := by
  have : ats[j]? = some (ats.getD j 0) := by simp [h]
  unfold turnZ
  rw [List.take_add_one, this]
  simp
/-- A block that is filled up to i. -/
def fillB (x : UInt8) (i : Nat) : List UInt8 := List.replicate i x ++ List.replicate (128 - i) 0
theorem fillB_length (x : UInt8) {i : Nat} (h : i ≤ 128) : (fillB x i).length = 128 := by simp [fillB]; omega
theorem fillB_set (x : UInt8) {i : Nat} (h : i < 128) : (fillB x i).set i x = fillB x (i + 1) := by
  unfold fillB
  rw [List.set_append_right _ _ (by simp), List.length_replicate, Nat.sub_self, show 128 - i = (128 - (i + 1)) + 1 by omega, List.replicate_succ, List.set_cons_zero]
  rw [show List.replicate (i + 1) x = List.replicate i x ++ [x] by rw [List.replicate_succ']]
  simp
theorem fillB_all (x : UInt8) : fillB x 128 = List.replicate 128 x := by simp [fillB]
theorem own_eqT {w : World} {base n : Nat} {e : TypeId} {v : Value} {xs ys : List Value} (h : w.ownsRow base e 1 v n xs) (he : xs = ys) : w.ownsRow base e 1 v n ys := he ▸ h
theorem infoT : (Try.prog.info? 5).map (fun i => (i.zero, i.size, i.bytes)) = some (some (.int .u8 0), 1, 1) := by kernel_rfl
theorem u8s_setT (l : List UInt8) (j : Nat) (b : UInt8) : (u8s l).set j (.int .u8 (b.toNat : Int)) = u8s (l.set j b) := by
  unfold u8s
  rw [List.map_set]
theorem u8s_getT {l : List UInt8} {j : Nat} (h : j < l.length) : (u8s l)[j]? = some (.int .u8 ((l.getD j 0).toNat : Int)) := by simp [u8s, h]

set_option maxRecDepth 100000 in
set_option maxHeartbeats 1000000 in
theorem turned_any (A : Option Addr) (n c : Nat) (img : List ByteArray) (P K L : Option Addr) (m mc k kc l lc : Nat) (ats : List Int) (by_ : Nat) (left : Int) (w : World)
    (hI : Reads w w.heap.size 1 A n (encS img)) (hn : 1 ≤ n ∧ n ≤ 512) (hA : Reads w w.heap.size 1 P m (encZ ats)) (hm : m ≤ 9223372036854775807) (_hby : by_ < 256) :
    Calls Try.prog 12 #[.slice A n c, .agg #[.slice P m mc, .int .u8 by_, .int .i64 left, .slice K k kc, .slice L l lc]] w fun e w' => ∃ A2 c2, e = .returned (.slice A2 n c2) ∧ Reads w' w'.heap.size 1 A2 n (encS (turnZ img by_ ats)) ∧ Below w.heap.size w w' := by
  obtain ⟨i0, hi0, hz0, hz1, hz2⟩ := info_parts infoS
  obtain ⟨u0, hu0, hv0, hv1, hv2⟩ := info_parts infoT
  have hmx : Try.prog.follows .mixedOrders = true := by kernel_rfl
  have hb2 : Below w.heap.size w ((w.alloc (.cells #[.slice P m mc, .int .u8 by_, .int .i64 left, .slice K k kc, .slice L l lc] 44)).alloc (.cells #[] 9)) := ((Below.refl _ w).alloc (Nat.le_refl _) _).alloc (by simp) _
  have hl := hI.1
  have hla := hA.1
  rw [encS_length] at hl
  rw [encZ_length] at hla
  have I2 := hI.step hb2
  have W0 : World.ownsRow ((w.alloc (.cells #[.slice P m mc, .int .u8 by_, .int .i64 left, .slice K k kc, .slice L l lc] 44)).alloc (.cells #[] 9)) (w.heap.size + 1) 9 1 (.slice (some ⟨w.heap.size + 1, 0, none⟩) 0 0) 0 [] := ⟨rfl, .inr ⟨w.heap.size + 1, 0, #[], rfl, Nat.le_refl _, by simpa using heap_alloc_new (w.alloc (.cells #[.slice P m mc, .int .u8 by_, .int .i64 left, .slice K k kc, .slice L l lc] 44)) (.cells #[] 9), Nat.le_refl _, Nat.zero_le _, rfl, rfl⟩⟩
  have HA := Lib.hid hA
  have HL := Lib.hid (And.intro hl hla)
  have HB1 : Hid (Below (w.heap.size + 1) (w.alloc (.cells #[.slice P m mc, .int .u8 by_, .int .i64 left, .slice K k kc, .slice L l lc] 44)) ((w.alloc (.cells #[.slice P m mc, .int .u8 by_, .int .i64 left, .slice K k kc, .slice L l lc] 44)).alloc (.cells #[] 9))) := Lib.hid ((Below.refl _ _).alloc (by simp) _)
  clear hA hI hl hla hb2
  go_enter Try.func12, Try.ntmps12
  go_wp2_with (at_builtin; refine wpList_append_reads _ rfl (.tmp 11) (.tmp 12) 22 rfl (w.heap.size + 1) 9 i0 _ 1 16 Try.underlying22 hi0 hz0 hz1 hz2 rfl (by omega) (.slice (some ⟨w.heap.size + 1, 0, none⟩) 0 0) 0 [] rfl W0 _ A n c (encS img) rfl I2 (encS_one _) (by simp only [maxLen]; omega) (by omega) (by simp) ?_)
  intro A2 c2 w1 ho1 hg1 _
  have J1 : Hid (w1.ownsRow (w.heap.size + 1) 9 1 (.slice A2 n c2) n (encS (turnZ img by_ (ats.take 0))) ∧ Below (w.heap.size + 1) (w.alloc (.cells #[.slice P m mc, .int .u8 by_, .int .i64 left, .slice K k kc, .slice L l lc] 44)) w1) := Lib.hid ⟨by rw [List.take_zero]; exact ho1, HB1.out.grown hg1 (by simp) (fun q hq => by cases hq; exact Nat.le_refl _)⟩
  clear ho1 hg1 I2 W0 HB1
  have hbox : ∀ W : World, Below (w.heap.size + 1) (w.alloc (.cells #[.slice P m mc, .int .u8 by_, .int .i64 left, .slice K k kc, .slice L l lc] 44)) W → W.cell? ⟨w.heap.size, 0, none⟩ = some (.slice P m mc) ∧ W.cell? ⟨w.heap.size, 1, none⟩ = some (.int .u8 by_) := fun W hW => by
    have hb := (hW.block w.heap.size (by omega)).trans (heap_alloc_new w (.cells #[.slice P m mc, .int .u8 by_, .int .i64 left, .slice K k kc, .slice L l lc] 44))
    exact ⟨cell_of_row _ _ _ _ _ (0, 0) hb, cell_of_row _ _ _ _ _ (0, 0) hb⟩
  have HX := Lib.hid hbox
  clear hbox
  obtain ⟨x0, x1⟩ := HX.out w1 J1.out.2
  go_wp2
  clear x0 x1
  go_loopg [17] m (fun gk s17 wr => ∃ j : Nat, j ≤ m ∧ m - j ≤ gk ∧ s17 = .int .i64 j ∧ Hid (wr.ownsRow (w.heap.size + 1) 9 1 (.slice A2 n c2) n (encS (turnZ img by_ (ats.take j))) ∧ Below (w.heap.size + 1) (w.alloc (.cells #[.slice P m mc, .int .u8 by_, .int .i64 left, .slice K k kc, .slice L l lc] 44)) wr))
  case atStart => exact ⟨0, Nat.zero_le _, by omega, rfl, J1⟩
  case round =>
    obtain ⟨j, hj, hg, rfl, J⟩ := hrel
    by_cases hlt : j < m
    · have hjm : (j : Int) < (m : Int) := by omega
      obtain ⟨b1, o1, rfl, _, g1⟩ := (HA.out.below (((Below.refl _ w).alloc (Nat.le_refl _) _).trans (J.out.2.mono (by omega)))).zed hlt
      generalize hgD : ats.getD j 0 = a at g1
      have HGD := Lib.hid hgD
      clear hgD
      obtain ⟨q, hq⟩ : ∃ q, q = placeK n a := ⟨_, rfl⟩
      have hqn : q < n := by rw [hq]; exact placeK_lt (by omega) a
      have htm : (IntKind.u64.wrap a).tmod (n : Int) = (q : Int) := by
        have h1 : 0 ≤ IntKind.u64.wrap a := by rw [IntKind.wrap_u64]; omega
        have h2 := Int.emod_nonneg (IntKind.u64.wrap a) (show (n : Int) ≠ 0 by omega)
        rw [Int.tmod_eq_emod_of_nonneg h1, hq]
        unfold placeK
        omega
      have hw64 : wrap64 (q : Int) = (q : Int) := by unfold wrap64; omega
      have HQ := Lib.hid hq
      clear hq
      go_wp2_with (at_make; refine wpList_make_full _ rfl _ _ 83 rfl wr.heap.size 5 u0 _ 1 Try.underlying83 hu0 hv0 hv1 .i64 .i64 128 128 128 rfl rfl rfl rfl ?_ ?_ ?_ ?_)
      · rw [hv2]; omega
      · simp only [maxLen]; omega
      · exact Nat.le_refl _
      intro w2 ho2 hg2
      have hb2 : Below wr.heap.size wr w2 := (Below.refl _ _).grown hg2 (Nat.le_refl _) (by intro k hk; cases hk)
      obtain ⟨x, hx⟩ : ∃ x, x = UInt8.ofNat (by_ + q) := ⟨_, rfl⟩
      have hxv : ((by_ : Int) + (q : Int)) % 256 = (x.toNat : Int) := by rw [hx]; simp
      have J2 : Hid (w2.ownsRow wr.heap.size 5 1 (.slice (some ⟨wr.heap.size, 0, none⟩) 128 128) 128 (u8s (fillB x 0)) ∧ Below wr.heap.size wr w2) := Lib.hid ⟨own_eqT ho2 (by rw [toList_madeCells_one]; unfold fillB u8s; rw [List.replicate_zero, List.nil_append, List.map_replicate]; rfl), hb2⟩
      clear ho2 hg2 hb2
      have HXV := Lib.hid hx
      clear hx
      obtain ⟨wo, hwo⟩ : ∃ wo, wo = wr := ⟨_, rfl⟩
      subst hwo
      clear htm hw64
      go_wp2
      go_loopg [31] 128 (fun gk s31 wr => ∃ i : Nat, i ≤ 128 ∧ 128 - i ≤ gk ∧ s31 = .int .i64 i ∧ Hid (wr.ownsRow wo.heap.size 5 1 (.slice (some ⟨wo.heap.size, 0, none⟩) 128 128) 128 (u8s (fillB x i)) ∧ Below wo.heap.size wo wr))
      case atStart => exact ⟨0, Nat.zero_le _, by omega, rfl, J2⟩
      case round =>
        obtain ⟨i, hi, hg, rfl, I⟩ := hrel
        by_cases hlti : i < 128
        · have hi128 : (i : Int) < 128 := by omega
          have hc := I.out.1.cellAt i (by omega)
          have hfl := fillB_length x (i := i) (by omega)
          rw [u8s_getT (by rw [hfl]; exact hlti)] at hc
          have hf := I.out.1.frozenAt i
          obtain ⟨x0, x1⟩ := HX.out wr (J.out.2.trans (I.out.2.mono (by have := J.out.2.size; simp at this; omega)))
          clear x0
          have hst := I.out.1.stored i (.int .u8 (x.toNat : Int))
          have IN : Hid ((wr.setCell ⟨wo.heap.size, i, none⟩ (.int .u8 (x.toNat : Int))).ownsRow wo.heap.size 5 1 (.slice (some ⟨wo.heap.size, 0, none⟩) 128 128) 128 (u8s (fillB x (i + 1))) ∧ Below wo.heap.size wo (wr.setCell ⟨wo.heap.size, i, none⟩ (.int .u8 (x.toNat : Int)))) :=
            Lib.hid ⟨own_eqT hst.1 (by rw [u8s_setT, fillB_set x hlti]), I.out.2.setCell (p := ⟨wo.heap.size, i, none⟩) (Nat.le_refl _) _⟩
          clear hst hfl
          go_wp2
          go_roundg (128 - (i + 1))
          case measure => omega
          case rel => exact ⟨i + 1, by omega, by omega, by go_num, IN⟩
        · have : i = 128 := by omega
          subst this
          have hO := I.out.1
          rw [fillB_all] at hO
          have hconv := own_string Try.underlying83 Try.underlying5 Try.underlying9 hO (by omega)
          clear hO
          have hsT : (⟨(List.replicate 128 x).toArray⟩ : ByteArray) = turnB by_ q := by unfold turnB; rw [← HXV.out, List.toArray_replicate]
          rw [hsT] at hconv
          clear hsT
          have O2 := own_below J.out.1 I.out.2
          have HLN : Hid ((turnZ img by_ (ats.take j)).length = n) := Lib.hid (by rw [turnZ_length]; have := HL.out.1; omega)
          have HN : Hid (turnZ img by_ (ats.take (j + 1)) = (turnZ img by_ (ats.take j)).set q (turnB by_ q)) := Lib.hid (by
            rw [turnZ_snoc img by_ ats j (by have := HL.out.2; omega), HGD.out]
            unfold turnAt
            rw [HLN.out, ← HQ.out])
          obtain ⟨ga, rfl, hga, hgl, _, _⟩ := own_cells O2 (by omega)
          have hcj := O2.cellAt q (by omega)
          rw [encS_get (by rw [HLN.out]; exact hqn)] at hcj
          have hfj := O2.frozenAt q
          have hst := O2.stored q (.string (turnB by_ q))
          have hW0 : w.heap.size + 1 ≤ wo.heap.size := by have := J.out.2.size; simp at this; omega
          have JN : Hid ((wr.setCell ⟨ga, q, none⟩ (.string (turnB by_ q))).ownsRow (w.heap.size + 1) 9 1 (.slice (some ⟨ga, 0, none⟩) n c2) n (encS (turnZ img by_ (ats.take (j + 1)))) ∧ Below (w.heap.size + 1) (w.alloc (.cells #[.slice (some ⟨b1, o1, none⟩) m mc, .int .u8 by_, .int .i64 left, .slice K k kc, .slice L l lc] 44)) (wr.setCell ⟨ga, q, none⟩ (.string (turnB by_ q)))) :=
            Lib.hid ⟨own_eqT hst.1 (by rw [HN.out]; simp [encS, List.map_set]), (J.out.2.trans (I.out.2.mono hW0)).setCell (p := ⟨ga, q, none⟩) hga _⟩
          clear O2 hst
          generalize turnB by_ q = tb at hconv JN
          have hqi : (q : Int) < (n : Int) := by omega
          go_wp2
          go_roundg (m - (j + 1))
          case measure => omega
          case rel => exact ⟨j + 1, by omega, by omega, by go_num, JN⟩
    · have : j = m := by omega
      subst this
      go_wp2
      go_ret
      refine ⟨A2, c2, rfl, ?_, ?_⟩
      · have h1 := Reads.of_own J.out.1
        rw [show ats.take j = ats from List.take_of_length_le (by have := HL.out.2; omega)] at h1
        exact h1
      · exact ((Below.refl _ w).alloc (Nat.le_refl _) _).trans (J.out.2.mono (by omega))

end Go.Proofs.Ytlpijikhbjkmfaa
