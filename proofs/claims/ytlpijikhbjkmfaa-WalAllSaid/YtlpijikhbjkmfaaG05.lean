/-
  What the statements' arguments are: devices, lists of truth values and of calls, as plain lists; and that they read afterwards as they read before.
-/
import Derived.Test.YtlpijikhbjkmfaaRows
import Derived.Test.YtlpijikhbjkmfaaG04
import Derived.SizedLaws
import Derived.ProofKit
import Derived.ChangeMaps5
import Derived.Lib.SmallJoins
import Derived.Deep.SlicePairs
import Derived.SliceStrings
namespace Go.Proofs.Ytlpijikhbjkmfaa
open Go.ChangeShapes Go.WideShapes Go.ChangeAt Go.RowKit Go.ChangeMaps Go.Joins Go.Deep
theorem Try.own : ownKnob Try.prog.godebug = none := by kernel_rfl
theorem Try.laidOut : laidOutB Try.prog = true := by kernel_rfl

theorem slice_addr {w : World} {a : Addr} {u : Value} (h : w.cell? (a.add 0) = some u) : ∃ b o, a = ⟨b, o, none⟩ := by
  obtain ⟨b, o, spot⟩ := a
  have hs : spot = none := by simpa [Addr.add] using World.cell?_spot h
  subst hs
  exact ⟨b, o, rfl⟩
theorem list_of (len : Nat) (V0 V1 : Nat → Value) (h : ∀ i, i < len → ∃ p : Int × ByteArray, V0 i = .int .i64 p.1 ∧ V1 i = .string p.2) :
    ∃ cs : List (Int × ByteArray), cs.length = len ∧ ∀ i, i < len → V0 i = .int .i64 (wAt cs i) ∧ V1 i = .string (wDat cs i) := by
  induction len with
  | zero => exact ⟨[], rfl, fun i hi => absurd hi (Nat.not_lt_zero _)⟩
  | succ k ih =>
    obtain ⟨cs, hl, hc⟩ := ih fun i hi => h i (by omega)
    obtain ⟨p, h0, h1⟩ := h k (by omega)
    refine ⟨cs ++ [p], by simp [hl], fun i hi => ?_⟩
    by_cases e : i = k
    · subst e
      have hq : (cs ++ [p]).getD i (0, ⟨#[]⟩) = p := by rw [List.getD_eq_getElem?_getD, List.getElem?_append_right (by omega), hl, Nat.sub_self]; rfl
      unfold wAt wDat
      rw [hq]
      exact ⟨h0, h1⟩
    · have hq : (cs ++ [p]).getD i (0, ⟨#[]⟩) = cs.getD i (0, ⟨#[]⟩) := by rw [List.getD_eq_getElem?_getD, List.getD_eq_getElem?_getD, List.getElem?_append_left (by omega)]
      unfold wAt wDat
      rw [hq]
      exact hc i (by omega)

section
variable {H : Type} {enc : TypeId × Value → H} {W : World} {base : Nat} {spare : Nat → Bool} {held : Bool} {fuel : Nat}
set_option maxRecDepth 100000 in
/-- A slice of texts. -/
theorem open_texts {v : Value} {y : DataW H × List MemPlace} (h : DataW.trod enc Try.prog W base spare held fuel 22 [v] = some y) (hw : ∀ x ∈ DataW.weights Try.prog 22 y.1, x ≤ reachBytes) :
    ∃ A n c bs, v = .slice A n c ∧ n ≤ c ∧ c ≤ maxLen ∧ Reads W W.heap.size 1 A n (encS bs) ∧ n * 16 ≤ 140737488355328 := by
  rcases open_strings Try.underlying22 Try.underlying9 (by kernel_rfl) h with ⟨hcs, hx⟩ | ⟨a, len, cap, ss, hcs, _, hl, hm, hz, hx, hcell, _⟩
  · injection hcs with hcs _
    exact ⟨none, 0, 0, [], hcs, Nat.le_refl _, by simp only [maxLen]; omega, Reads.nil, by omega⟩
  · injection hcs with hcs _
    subst hx
    have hlen : len ≤ ss.length := by rw [hz]; split <;> omega
    have hbytes := hw ((List.length (strs (H := H) (ss.take len)) + List.length (strs (H := H) (ss.drop len))) * Try.prog.bytesOf 9) (by simp [DataW.weights, Try.underlying22])
    have hb16 : Try.prog.bytesOf 9 = 16 := by kernel_rfl
    rw [hb16] at hbytes
    have hlen2 : (strs (H := H) (ss.take len)).length = len := by simp [strs]; omega
    have hre : reachBytes = 140737488351232 := by decide
    rw [hlen2, hre] at hbytes
    refine ⟨some a, len, cap, ss.take len, hcs, hl, hm, ⟨by rw [encS_length, List.length_take]; omega, fun hn => ?_⟩, by omega⟩
    obtain ⟨b, o, rfl⟩ := slice_addr (hcell 0 (by omega))
    refine ⟨b, o, rfl, ?_, fun j u hu => ?_⟩
    · have := World.block_lt_of_cell? W _ (hcell 0 (by omega))
      rw [add_plain] at this
      exact this
    · have hj := (List.getElem?_eq_some_iff.1 hu).1
      rw [encS_length, List.length_take] at hj
      rw [encS_get (by rw [List.length_take]; omega)] at hu
      injection hu with hu
      rw [← hu, ← add_plain, hcell j (by omega)]
      have e : ss.getD j ByteArray.empty = blk (ss.take len) j := by
        unfold blk
        rw [List.getD_eq_getElem?_getD, List.getD_eq_getElem?_getD, List.getElem?_take, if_pos (by omega)]
        rfl
      rw [e]
set_option maxRecDepth 100000 in
/-- A slice of writes. -/
theorem open_writes {v : Value} {y : DataW H × List MemPlace} (h : DataW.trod enc Try.prog W base spare held fuel 23 [v] = some y) (hw : ∀ x ∈ DataW.weights Try.prog 23 y.1, x ≤ reachBytes) :
    ∃ A m c cs, v = .slice A m c ∧ m ≤ c ∧ c ≤ maxLen ∧ Reads W W.heap.size 2 A m (encW cs) ∧ m * 24 ≤ 140737488355328 := by
  rcases open_slice_pairs Try.underlying23 Try.underlying53 (by kernel_rfl) (by kernel_rfl) (by kernel_rfl) (by kernel_rfl) (by kernel_rfl) h with ⟨hcs, hx⟩ | ⟨a, len, cap, m, n, V0, V1, D0, D1, P0, P1, hcs, _, hl, hm, hmm, hx, hi⟩
  · injection hcs with hcs _
    exact ⟨none, 0, 0, [], hcs, Nat.le_refl _, by simp only [maxLen]; omega, Reads.nil, by omega⟩
  · injection hcs with hcs _
    subst hx
    have hlm : len ≤ m := by rw [hmm]; split <;> omega
    have hbytes := hw ((List.length ((List.range len).map fun i => (DataW.agg [D0 i, D1 i] : DataW H)) + List.length ((List.range (m - len)).map fun j => (DataW.agg [D0 (len + j), D1 (len + j)] : DataW H))) * Try.prog.bytesOf 53) (by simp [DataW.weights, Try.underlying23])
    have hb24 : Try.prog.bytesOf 53 = 24 := by kernel_rfl
    rw [hb24] at hbytes
    have hre : reachBytes = 140737488351232 := by decide
    simp only [List.length_map, List.length_range] at hbytes
    rw [hre] at hbytes
    obtain ⟨cs, hcl, hcv⟩ := list_of len V0 V1 fun i hi' => by
      obtain ⟨_, _, t0, t1⟩ := hi i (by omega)
      obtain ⟨x, e0, _, _⟩ := DataW.trod_int Try.underlying3 t0
      obtain ⟨s, e1, _, _⟩ := DataW.trod_string Try.underlying9 t1
      injection e0 with e0 _
      injection e1 with e1 _
      exact ⟨(x, s), e0, e1⟩
    refine ⟨some a, len, cap, cs, hcs, hl, hm, ⟨by rw [encW_length, hcl], fun hn => ?_⟩, by omega⟩
    have h0 := (hi 0 (by omega)).1
    rw [Nat.zero_mul] at h0
    obtain ⟨b, o, rfl⟩ := slice_addr h0
    refine ⟨b, o, rfl, ?_, fun j u hu => ?_⟩
    · have := World.block_lt_of_cell? W _ h0
      rw [add_plain] at this
      exact this
    · have hj := (List.getElem?_eq_some_iff.1 hu).1
      rw [encW_length, hcl] at hj
      have hk : j / 2 < len := by omega
      obtain ⟨c0, c1, _, _⟩ := hi (j / 2) (by omega)
      obtain ⟨g0, g1⟩ := encW_get (cs := cs) (k := j / 2) (by omega)
      obtain ⟨e0, e1⟩ := hcv (j / 2) hk
      rw [add_plain] at c0 c1
      rcases Nat.mod_two_eq_zero_or_one j with hp | hp
      · have hjj : j / 2 * 2 = j := by omega
        rw [hjj] at g0 c0
        rw [hu] at g0
        rw [c0, e0, ← g0]
      · have hjj : j / 2 * 2 + 1 = j := by omega
        rw [hjj] at g1 c1
        rw [hu] at g1
        rw [c1, e1, ← g1]
set_option maxRecDepth 100000 in
/-- A slice of truth values. -/
theorem open_bools {v : Value} {y : DataW H × List MemPlace} (h : DataW.trod enc Try.prog W base spare held fuel 49 [v] = some y) :
    ∃ K k c ks, v = .slice K k c ∧ k ≤ c ∧ c ≤ maxLen ∧ Reads W W.heap.size 1 K k (encB ks) := by
  rcases open_slice1 Try.underlying49 (by kernel_rfl) h with ⟨hcs, hx⟩ | ⟨a, len, cap, m, n, V, D, Pl, hcs, _, hl, hm, hmm, hx, hi⟩
  · injection hcs with hcs _
    exact ⟨none, 0, 0, [], hcs, Nat.le_refl _, by simp only [maxLen]; omega, Reads.nil⟩
  · injection hcs with hcs _
    have hlm : len ≤ m := by rw [hmm]; split <;> omega
    have hb : ∀ i, i < len → ∃ x : Bool, V i = .bool x := fun i hi' => by
      obtain ⟨x, e, _⟩ := DataW.trod_bool Try.underlying4 (hi i (by omega)).2
      injection e with e _
      exact ⟨x, e⟩
    have hlist : ∀ k, k ≤ len → ∃ ks : List Bool, ks.length = k ∧ ∀ i, i < k → V i = .bool (bAt ks i) := by
      intro k
      induction k with
      | zero => exact fun _ => ⟨[], rfl, fun i hi => absurd hi (Nat.not_lt_zero _)⟩
      | succ k ih =>
        intro hk
        obtain ⟨ks, hkl, hc⟩ := ih (by omega)
        obtain ⟨x, hx⟩ := hb k (by omega)
        refine ⟨ks ++ [x], by simp [hkl], fun i hi => ?_⟩
        by_cases e : i = k
        · subst e
          have hq : bAt (ks ++ [x]) i = x := by unfold bAt; rw [List.getD_eq_getElem?_getD, List.getElem?_append_right (by omega), hkl, Nat.sub_self]; rfl
          rw [hq]; exact hx
        · have hq : bAt (ks ++ [x]) i = bAt ks i := by unfold bAt; rw [List.getD_eq_getElem?_getD, List.getD_eq_getElem?_getD, List.getElem?_append_left (by omega)]
          rw [hq]; exact hc i (by omega)
    obtain ⟨ks, hkl, hkv⟩ := hlist len (Nat.le_refl _)
    refine ⟨some a, len, cap, ks, hcs, hl, hm, ⟨by rw [encB_length, hkl]; omega, fun hn => ?_⟩⟩
    have h0 := (hi 0 (by omega)).1
    obtain ⟨b, o, rfl⟩ := slice_addr h0
    refine ⟨b, o, rfl, ?_, fun j u hu => ?_⟩
    · have := World.block_lt_of_cell? W _ h0
      rw [add_plain] at this
      exact this
    · have hj := (List.getElem?_eq_some_iff.1 hu).1
      rw [encB_length, hkl] at hj
      rw [encB_get (by omega)] at hu
      injection hu with hu
      have hc := (hi j (by omega)).1
      rw [add_plain] at hc
      rw [hc, hkv j hj, ← hu]
set_option maxRecDepth 100000 in
/-- A device. -/
theorem open_dev {r : Reach} {b0 : Nat} {v : Value} {d : DataW H} {p : List MemPlace} (hv : Value.okWide Try.prog W r b0 25 v) (h : DataW.Trod enc Try.prog W base spare held 25 v d p) (hw : ∀ x ∈ DataW.weights Try.prog 25 d, x ≤ reachBytes) :
    ∃ A n c A' m c' d0, v = .agg #[.slice A n c, .slice A' m c', .int .i64 d0.left, .bool d0.dead] ∧ Dv W W.heap.size A n A' m d0 ∧ -9223372036854775808 ≤ d0.left ∧ d0.left ≤ 9223372036854775807 := by
  obtain ⟨v0, v1, v2, v3, y0, y1, y2, y3, fu, rfl, rfl, rfl, h0, h1, h2, h3⟩ := open_agg4 Try.underlying25 (by kernel_rfl) (by kernel_rfl) hv h
  have hmem : ∀ j t y, ([22, 23, 3, 4] : List TypeId)[j]? = some t → ([y0.1, y1.1, y2.1, y3.1] : List (DataW H))[j]? = some y → ∀ x ∈ DataW.weights Try.prog t y, x ≤ reachBytes := fun j t y ht hy x hx =>
    hw x (by
      have := DataW.weights_mem_each (P := Try.prog) ht hy x hx
      simpa [DataW.weights, Try.underlying25] using this)
  obtain ⟨A, n, c, bs, rfl, hnc, hcm, hR, h16⟩ := open_texts h0 (hmem 0 _ _ rfl rfl)
  obtain ⟨A', m, c', cs, rfl, hmc, hcm', hR', h24⟩ := open_writes h1 (hmem 1 _ _ rfl rfl)
  obtain ⟨l, e2, _, hwf⟩ := DataW.trod_int Try.underlying3 h2
  obtain ⟨b, e3, _⟩ := DataW.trod_bool Try.underlying4 h3
  injection e2 with e2 _
  injection e3 with e3 _
  subst e2; subst e3
  have hbd : -9223372036854775808 ≤ l ∧ l ≤ 9223372036854775807 := by
    have e1 : IntKind.i64.min = -9223372036854775808 := by decide
    have := hwf
    simp [Lit.wf] at this
    rw [e1] at this
    exact this
  exact ⟨A, n, c, A', m, c', ⟨bs, cs, l, b⟩, rfl, ⟨hR, hR', h16, h24⟩, hbd.1, hbd.2⟩
end

end Go.Proofs.Ytlpijikhbjkmfaa
