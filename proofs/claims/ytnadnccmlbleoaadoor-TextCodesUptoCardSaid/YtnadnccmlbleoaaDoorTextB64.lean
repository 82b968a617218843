/-
  Base 64 as the program makes it.
-/
import Derived.Deep.LoopGhost
import Derived.Test.YtnadnccmlbleoaaDoorTextSext
import Derived.Test.YtnadnccmlbleoaaDoorTextRound
namespace Go.Proofs.YtnadnccmlbleoaaDoor
open Go.RowKit Go.Shelf
attribute [local go_sem] Oper.semAt_some

theorem kpS_put {n₀ Bs z : Nat} (hn : n₀ ≤ z) (hs : Bs < z) (W : World) (l : Nat) (o o' : Obj) (hl : z ≤ l) (ho : W.heap[l]? = some o) (_hc : o.isCells = false) (_hw : o.isWalk = false) : KpS n₀ Bs W (W.putObj l o') :=
  ⟨(Below.refl n₀ W).grown (grownBy_putObj' W l o') (by have := (Array.getElem?_eq_some_iff.1 ho).1; omega) fun j ej => by cases ej; omega, World.putObj_heap_other (by omega)⟩
/-- Between two rounds: the box holds a row with the letters so far. -/
def B64Inv (n₀ : Nat) (s : ByteArray) (w : World) (pre : List (Fin 64)) (W : World) : Prop :=
  ((∃ v, Boxed W (n₀ + 1) 35 v ∧ W.ownsRow n₀ 5 1 v pre.length (u8s (pre.map fun v => letter v.val)) ∧ True) ∧ Boxed W (n₀ + 2) 9 (.string s)) ∧ Below n₀ w W
theorem own_boxed' {β : Type} (z B : Nat) (t : TypeId) (v : Value) : OwnFrom z (fun (_ : β) W => Boxed W B t v) :=
  Own.from (fun _ X _ row h hg hr => h.kept hg fun e => by
    obtain ⟨o, ho, hc⟩ := hr B e.symm
    rw [show X.heap[B]? = _ from h] at ho; cases ho; cases hc) z
/-- How many letters behind the sextets are padding. -/
theorem b64_split (l : List UInt8) (j : Nat) (hj : cnt l.length + j = full l.length) : b64 l = ((sxs l (cnt l.length)).map fun v => letter v.val) ++ List.replicate j 61 := by
  refine List.ext_getElem (by rw [b64_length]; simp [sxs_length]; omega) fun i h1 h2 => ?_
  rw [b64_length] at h1
  have := b64_get h1
  rw [List.getD_eq_getElem?_getD, List.getElem?_eq_getElem (by rw [b64_length]; exact h1)] at this
  simp only [Option.getD_some] at this
  rw [this]
  unfold b64At
  by_cases hc : i < cnt l.length
  · rw [if_pos hc, List.getElem_append_left (by simp [sxs_length]; exact hc)]
    simp [sxs, yF]
  · rw [if_neg hc, List.getElem_append_right (by simp [sxs_length]; omega)]
    simp
theorem letter_idx (v : Nat) (h : v < 64) : (((⟨letters.toArray⟩ : ByteArray)[v]'h).toNat : Int) = (letter v).toNat := by
  have hh : ∀ x : Fin 64, ((⟨letters.toArray⟩ : ByteArray)[x.val]'x.isLt) = letter x.val := by decide +kernel
  rw [hh ⟨v, h⟩]

theorem own_slice {w : World} {base size n : Nat} {e : TypeId} {v : Value} {xs : List Value} (h : w.ownsRow base e size v n xs) : ∃ A c, v = .slice A n c ∧ n ≤ c ∧ c ≤ maxLen := by
  rcases h.2 with ⟨rfl, rfl⟩ | ⟨g, cap, cur, rfl, _, _, h1, h2, _⟩
  · exact ⟨none, 0, rfl, Nat.le_refl _, by simp only [maxLen]; omega⟩
  · exact ⟨_, _, rfl, h1, h2⟩

set_option maxRecDepth 100000 in
set_option maxHeartbeats 4000000 in
theorem base64_any (s : ByteArray) (hs : s.size ≤ 16777216) (w : World) :
    Calls Tryd.prog 15 #[.string s] w fun e w' => e = .returned (.string ⟨(b64 s.data.toList).toArray⟩) ∧ Below w.heap.size w w' := by
  have hmx : Tryd.prog.follows .mixedOrders = true := by kernel_rfl
  obtain ⟨i0, hi, hz0, hz1, hz2⟩ := info_parts infoB
  obtain ⟨c, hc⟩ : ∃ c : Nat, c = s.size / 3 * 4 + 4 := ⟨_, rfl⟩
  obtain ⟨M, hM⟩ : ∃ M, M = madeCells (Value.int .u8 0).cells ((c : Int).toNat * i0.size) := ⟨_, rfl⟩
  have hMs : M.size = c * 1 := by rw [hM, size_madeCells, hz1]; rfl
  have hmk : ∀ W : World, (Instr.makeSlice 35 (.int .i64 0) (.int .i64 (c : Int))).run Tryd.prog W = .ok (.slice (some ⟨W.heap.size, 0, none⟩) 0 c) (W.alloc (.cells M 5)) := fun W => by
    have h := run_make (P := Tryd.prog) W 35 5 i0 (.int .u8 0) Tryd.underlying35 hi hz0 .i64 .i64 0 c (by omega) (by omega) (by rw [hz2]; omega) (by omega)
    rw [← hM] at h
    simpa using h
  have hce : (s.size : Int) / 3 * 4 + 4 = (c : Int) := by omega
  have hcb : c ≤ 1099511627776 := by omega
  have hct : (s.size : Int).tdiv 3 = (s.size : Int) / 3 := by rw [Int.tdiv_eq_ediv_of_nonneg (by omega)]
  have HM := Lib.hid hM; clear hM
  have HMs := Lib.hid hMs; clear hMs
  have hlen := Lib.hid (bsize s)
  have HCE := Lib.hid hc; clear hc
  refine (callsIn_wide (n := 3)).1 ?_
  refine callsIn_of_wp_marks Tryd.func15 rfl trivial ?_ rfl
  refine wpIn_wide.2 ?_
  simp only [Tryd.ntmps15, List.size_toArray, List.length_cons, List.length_nil, Nat.reduceAdd, Nat.reduceSub, Array.replicate_succ, Array.replicate_zero, List.push_toArray, List.append_toArray, List.nil_append, List.cons_append]
  go_wp2_with (go_at_call 37; refine ((callsIn_wide (n := 2)).1 (sextets_in Fence.wide 2 trivial rfl _ _)).mono ?_; rintro e w' ⟨rfl, rfl⟩)
  refine (wpIn_wide (n := 3)).1 ?_
  have hB0 : Below w.heap.size w (((w.alloc (.cells M 5)).alloc (.cells #[.slice (some ⟨w.heap.size, 0, none⟩) 0 c] 35)).alloc (.cells #[.string s] 9)) :=
    (((Below.refl _ w).alloc (Nat.le_refl _) _).alloc (by simp) _).alloc (by simp; omega) _
  have bO := (Boxed.new (w.alloc (.cells M 5)) 35 (.slice (some ⟨w.heap.size, 0, none⟩) 0 c)).alloc (.cells #[.string s] 9)
  have bS := Boxed.new ((w.alloc (.cells M 5)).alloc (.cells #[.slice (some ⟨w.heap.size, 0, none⟩) 0 c] 35)) 9 (.string s)
  simp only [World.size_alloc] at bO bS
  have hrow0 : (w.alloc (.cells M 5)).ownsRow w.heap.size 5 1 (.slice (some ⟨w.heap.size, 0, none⟩) 0 c) 0 [] := World.ownsRow_made w M c (Nat.le_refl _) (by unfold maxLen; omega) HMs.out
  refine wpIn_rangeFunc_ownG rfl (by omega) (gf := 46) (lb := #[.pointer (some ⟨w.heap.size + 1 + 1, 0, none⟩)]) rfl trivial (enters_of Tryd.func46 (by kernel_rfl) rfl)
    (sextets_stops Fence.wide 2 trivial rfl (by omega) (w.heap.size + 1 + 1) w.heap.size s hs _ (by simp) bS.cell) KpS.trans (kpS_put (by simp; omega) (by simp)) (Below.refl _ _) (fun _ => rfl)
    (B64Inv w.heap.size s w) (fun _ _ _ => False)
    (OwnFrom.and (OwnFrom.and (Own.from (holdsRow_own w.heap.size (w.heap.size + 1) 35 5 1 (fun pre : List (Fin 64) => pre.length) (fun pre : List (Fin 64) => u8s (pre.map fun v => letter v.val)) (fun _ _ => True)) _) (own_boxed' _ _ _ _)) (ownFrom_below (Nat.le_refl _) (by simp; omega)))
    (fun _ _ _ _ _ hs _ _ => hs)
    ⟨⟨⟨_, bO, (hrow0.alloc _).alloc _, trivial⟩, bS⟩, hB0⟩
    (fun v : Fin 64 => { tmps := #[.string s, undef, .string ⟨#[]⟩, .pointer (some ⟨w.heap.size + 1, 0, none⟩), .int .u8 (v.val : Int), .string s, .int .i64 (s.size : Int), .int .i64 ((s.size : Int) / 3), .int .i64 ((s.size : Int) / 3 * 4), .int .i64 (c : Int), .slice (some ⟨w.heap.size, 0, none⟩) 0 c, .string s, .func (.func 46) #[] #[.pointer (some ⟨w.heap.size + 1 + 1, 0, none⟩)], .int .u8 (v.val : Int), undef, undef, undef, undef, undef, undef, undef, undef, undef, undef, undef, undef, undef, undef], defers := [] }) ?assign ?body ?done ?stop
  case assign =>
    intro l v W K hK
    gi_wp2
    exact hK
  case body =>
    rintro l pre v W ⟨⟨⟨vv, hv, hrow, _⟩, hbs⟩, hB⟩ hlt
    clear hB0 bO bS hrow0 hmk hce hct
    have hvl := v.isLt
    have hpl : pre.length ≤ 100000000 := by have : cnt s.size = (8 * s.size + 5) / 6 := rfl; omega
    gi_wp2_with fail
    refine wpIn_mono (Q := fun e a' w' => e = .normal ∧ KeepsOthers W w' ∧ KpS w.heap.size (w.heap.size + 1 + 1) W w' ∧ B64Inv w.heap.size s w (pre ++ [v]) w') ?_ ?_
    · refine wpIn_region_till (fun w' => w'.cell? ⟨w.heap.size + 1, 0, none⟩ = some vv) 5 6 hmx (by kernel_rfl) (fun ⟨_, _, h⟩ => by cases h.1) (by kernel_rfl) ?_
      have HS0 : (W.drew).cell? ⟨w.heap.size + 1, 0, none⟩ = some vv := hv.cell
      refine till_take (i := 0) _ (vv) [0] rfl (by kernel_rfl) (by kernel_rfl) (by kernel_rfl) (by kernel_rfl) (fun _ _ _ h => h) (.inl ⟨by rfl, fun w' hS => ?_⟩) HS0 ?_
      · go_simp
      try simp only [Act.put, List.setIfInBounds_toArray]
      refine till_take (i := 1) _ (.int .u8 (v.val : Int)) [1] rfl (by kernel_rfl) (by kernel_rfl) (by kernel_rfl) (by kernel_rfl) (fun _ _ _ h => h) (.inl ⟨by rfl, fun w' hS => ?_⟩) HS0 ?_
      · go_simp
      try simp only [Act.put]
      refine till_take (i := 2) _ (.int .u8 ((letter v.val).toNat : Int)) [2] rfl (by kernel_rfl) (by kernel_rfl) (by kernel_rfl) (by kernel_rfl) (fun _ _ _ h => h) (.inl ⟨by rfl, fun w' hS => ?_⟩) HS0 ?_
      · go_simp
        rw [dif_pos (by omega)]
        exact congrArg (fun z : Int => Result.ok (Next.value (Value.int .u8 z)) w') (letter_idx v.val v.isLt)
      try simp only [Act.put]
      refine till_one (i := 3) _ (by kernel_rfl) rfl rfl (fun K hK => ?_)
      go_simp
      have HS3 : ((W.alloc (.cells #[.int .u8 ((letter v.val).toNat : Int)] 5)).drew).cell? ⟨w.heap.size + 1, 0, none⟩ = some vv := (hv.alloc _).cell
      refine hK.out _ _ (fun _ _ => HS3) ?_
      try simp only [Act.put, List.setIfInBounds_toArray, List.set_cons_zero, List.set_cons_succ]
      clear hK K
      refine till_one (i := 4) _ (by kernel_rfl) rfl rfl (fun K hK => ?_)
      have hrow' : W.ownsRow w.heap.size 5 1 vv (pre.map fun v => letter v.val).length (u8s (pre.map fun v => letter v.val)) := by rw [List.length_map]; exact hrow
      refine oper_append _ _ _ rfl Tryd.underlying35 hi hz0 hz1 hz2 (v := vv) rfl ((hrow'.alloc _).drew) [letter v.val] rfl (cells_new _ _ _ _ rfl) (by simp; omega) (by have := hB.size; simp; omega) (fun v' w1 hown1 hgrow1 => ?_)
      obtain ⟨hv1, hv2, hr2, hk2, hb2⟩ := Boxed.appended (W := W.drew) (tmp := .cells #[.int .u8 ((letter v.val).toNat : Int)] 5) hv (by decide) hrow'.drew (n₀ := w.heap.size) hB.size (by omega) hown1 hgrow1
      have hc1 := hv1.cell
      have hf1 := hv1.frozen
      have hsD : Boxed (W.alloc (.cells #[.int .u8 ((letter v.val).toNat : Int)] 5)).drew (w.heap.size + 2) 9 (.string s) := hbs.alloc _
      have hs1 : Boxed (w1.setCell ⟨w.heap.size + 1, 0, none⟩ v') (w.heap.size + 2) 9 (.string s) := (hsD.kept hgrow1 (hbs.not_row (by decide) hrow')).kept (grownBy_setCell' _ _ _) (by simp)
      have HF := Lib.hid (And.intro hv2 (And.intro hr2 (And.intro hk2 (And.intro hb2 hs1))))
      clear hv2 hr2 hk2 hb2 hs1
      refine hK.out _ _ (fun _ _ => hc1) ?_
      try simp only [Act.put, List.setIfInBounds_toArray]
      clear hK K
      refine till_one (i := 5) _ (by kernel_rfl) rfl rfl (fun K hK => ?_)
      obtain ⟨g', cap', rfl⟩ := ownsRow_succ (k := pre.length) (by simpa using hown1)
      go_simp
      refine hK.out _ _ (fun h => absurd rfl h) ?_
      try simp only [Act.put, List.setIfInBounds_toArray, List.set_cons_zero, List.set_cons_succ]
      clear hK K
      refine till_done (by kernel_rfl) ?_
      obtain ⟨hv2, hr2, hk2, hb2, hs1⟩ := HF.out
      refine ⟨rfl, ⟨hk2.size, hk2.same⟩, ⟨(Below.refl _ W).drew.trans hb2, ?_⟩, ⟨⟨⟨_, hv2, ?_, trivial⟩, hs1⟩, hB.trans ((Below.refl _ W).drew.trans hb2)⟩⟩
      · exact (show _ = _ from hs1).trans (show _ = _ from hbs).symm
      · simpa [u8s] using hr2
    · rintro e a' w' ⟨rfl, h1, h2, h3⟩
      exact ⟨h1.from _, h2, h3⟩
  case done =>
    rintro D ys W hD rfl ⟨⟨⟨v, hv, hrow, _⟩, hbs⟩, hB⟩ hK
    clear hB0 bO bS hrow0 hmk hce hct
    obtain ⟨N, hN⟩ : ∃ N, N = cnt s.size := ⟨_, rfl⟩
    obtain ⟨P, hP⟩ : ∃ P, P = full s.size - cnt s.size := ⟨_, rfl⟩
    have hcf := cnt_full s.size
    have hP4 : P < 4 := by omega
    have hNP : (N + P) % 4 = 0 := by unfold full at hcf hP; omega
    have hNb : N ≤ 100000000 := by unfold cnt at hN; omega
    have HSP : Hid (b64 s.data.toList = ((sxs s.data.toList N).map fun v => letter v.val) ++ List.replicate P 61) := Lib.hid (by
      rw [hN, hlen.out]
      exact b64_split _ _ (by rw [← hlen.out]; omega))
    rw [sxs_length, ← hN] at hrow
    clear hcf hN hP
    obtain ⟨LS, hLS⟩ : ∃ LS, LS = (sxs s.data.toList N).map fun v => letter v.val := ⟨_, rfl⟩
    have hLN : Hid (LS.length = N) := Lib.hid (by rw [hLS, List.length_map, sxs_length])
    rw [← hLS] at hrow HSP
    clear hLS hbs
    obtain ⟨A, cc, rfl, _, _⟩ := own_slice hrow
    have HD0 : Hid (D < W.heap.size ∧ w.heap.size ≤ D) := Lib.hid ⟨(Array.getElem?_eq_some_iff.1 hK).1, by simp at hD; omega⟩
    have HK := Lib.hid (show W.heap[D]? = some (.deferred (some [])) from hK)
    have HV := Lib.hid hv
    have HR := Lib.hid hrow
    have HB := Lib.hid hB
    clear hv hrow hB hK hD
    go_wp2
    go_loopg [] (P + 1) (fun g wr => ∃ (j : Nat) (A : Option Addr) (cc : Nat), j ≤ P ∧ P - j ≤ g ∧ Hid (Boxed wr (w.heap.size + 1) 35 (.slice A (N + j) cc)) ∧ Hid (wr.ownsRow w.heap.size 5 1 (.slice A (N + j) cc) (N + j) (u8s (LS ++ List.replicate j 61))) ∧ Hid (Below w.heap.size w wr) ∧ Hid (wr.heap[D]? = some (.deferred (some []))))
    case atStart => exact ⟨0, A, cc, Nat.zero_le _, by omega, HV, Lib.hid (by rw [List.replicate_zero, List.append_nil]; exact HR.out), HB, HK⟩
    case round =>
      obtain ⟨j, A, cc, hj, hg, HV, HR, HB, HK⟩ := hrel
      have hc1 := HV.out.cell
      have hf1 := HV.out.frozen
      by_cases hz : (N + j) % 4 = 0
      · obtain rfl : j = P := by omega
        have t1 : (((N : Int) + j) % 4 != 0) = false := by simp; omega
        have hconv := own_string Tryd.underlying35 Tryd.underlying5 Tryd.underlying9 HR.out
        rw [← HSP.out] at hconv
        go_wp2
        refine ⟨by simp, .inl ⟨_, _, rfl, run_takeDeferred HK.out, ?_⟩⟩
        exact ⟨_, results_tmp rfl _ _ _, rfl, HB.out.trans (belowK_b (w := w) (Nat.le_refl _) wr D _ _ HD0.out.2 HK.out rfl rfl)⟩
      · have t1 : (((N : Int) + j) % 4 != 0) = true := by simp; omega
        go_wp2_with (at_builtin; refine wpList_append_own _ rfl _ _ 35 rfl w.heap.size 5 i0 (.int .u8 0) 1 1 Tryd.underlying35 hi hz0 hz1 hz2 rfl (by decide) _ _ _ rfl (HR.out.alloc _) ⟨wr.heap.size, 0, none⟩ 1 1 [.int .u8 61] rfl rfl (cell_one_new _ _ _) (by simp [Value.oneCell']) (by unfold maxLen; omega) (by omega) (by have := HB.out.size; simp; omega) ?_; intro v' w1 hown' hgrow _; obtain ⟨g', cap', rfl⟩ := ownsRow_succ hown'; obtain ⟨hv1, hv2, hr2, hk2, hb2⟩ := HV.out.appended (by decide) HR.out HB.out.size (by omega) hown' hgrow; have HF := Lib.hid (And.intro hv2 (And.intro hr2 (And.intro hk2 hb2))); have hc2 := hv1.cell; have hf2 := hv1.frozen; clear hv2 hr2 hk2 hb2)
        go_roundg (P - (j + 1))
        case measure => omega
        case rel =>
          refine ⟨j + 1, _, _, by omega, by omega, Lib.hid HF.out.1, Lib.hid ?_, Lib.hid (HB.out.trans HF.out.2.2.2), Lib.hid (HF.out.2.2.1.same D _ HK.out rfl)⟩
          have e : u8s (LS ++ List.replicate (j + 1) 61) = u8s (LS ++ List.replicate j 61) ++ [.int .u8 61] := by
            rw [List.replicate_succ', ← List.append_assoc, u8s_app]; rfl
          rw [e]
          exact HF.out.2.1
  case stop =>
    rintro D c pre W _ _ h _
    exact h.elim
end Go.Proofs.YtnadnccmlbleoaaDoor
