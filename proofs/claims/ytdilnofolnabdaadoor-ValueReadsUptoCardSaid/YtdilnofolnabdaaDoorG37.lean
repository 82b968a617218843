/-
  The program's own functions of layer 13: rows of times, read.
-/
import Derived.Test.YtdilnofolnabdaaDoorG36
import Derived.Test.YtdilnofolnabdaaDoorG21
import Derived.Test.YtdilnofolnabdaaDoorG27
namespace Go.Proofs.YtdilnofolnabdaaDoor
open Go.RowKit Go.Shelf
attribute [local go_sem] Oper.semAt_some

theorem infoW : (Tryd.prog.info? 32).map (fun i => (i.zero, i.size, i.bytes)) = some (some (.agg #[.int .i64 0, .bool false, .bool false]), 3, 16) := by kernel_rfl
/-- A row's cells. -/
def whC (ws : List Wh) : List Value := ws.flatMap fun w => [.int .i64 w.secs, .bool w.utc, .bool w.date]
theorem whC_app (a b : List Wh) : whC (a ++ b) = whC a ++ whC b := by simp [whC]
theorem whC_len : ∀ ws, (whC ws).length = ws.length * 3
  | [] => rfl
  | w :: ws => by
    rw [show whC (w :: ws) = [.int .i64 w.secs, .bool w.utc, .bool w.date] ++ whC ws by simp [whC], List.length_append, whC_len ws]
    simp; omega
theorem append_two {W w1 : World} {n₀ n₁ B : Nat} {t e : TypeId} {size : Nat} {v v' : Value} {k m : Nat} {xs ys : List Value} {tmp : Obj}
    (hv : Boxed W B t v) (hte : t ≠ e) (hrow : W.ownsRow n₁ e size v k xs) (hn : n₀ ≤ n₁) (hn₀ : n₀ ≤ W.heap.size) (hB : n₀ ≤ B)
    (hown' : w1.ownsRow n₁ e size v' m ys) (hgrow : (W.alloc tmp).grownBy w1 v.ownBlock) :
    Boxed w1 B t v ∧ Boxed (w1.setCell ⟨B, 0, none⟩ v') B t v' ∧ (w1.setCell ⟨B, 0, none⟩ v').ownsRow n₁ e size v' m ys ∧ KeepsOthers W (w1.setCell ⟨B, 0, none⟩ v') ∧ Below n₀ W (w1.setCell ⟨B, 0, none⟩ v') ∧
      (∀ k, k < n₁ → k < W.heap.size → k ≠ B → (w1.setCell ⟨B, 0, none⟩ v').heap[k]? = W.heap[k]?) := by
  have hv1 : Boxed w1 B t v := (hv.alloc tmp).kept hgrow (hv.not_row hte hrow)
  have hob : ∀ j, some j = v.ownBlock → n₁ ≤ j := fun j ej => by
    rcases hrow.2 with ⟨rfl, _⟩ | ⟨g, cap, cur, rfl, hb, _, _⟩
    · simp [Value.ownBlock] at ej
    · obtain rfl : j = g := by simpa [Value.ownBlock] using ej
      exact hb
  refine ⟨hv1, hv1.set v', hown'.kept (grownBy_setCell' w1 B v') (.inr (hv1.not_row hte hown').symm), ?_, ?_, fun k hk hkW hkB => ?_⟩
  · refine ((KeepsOthers.alloc W tmp).trans (KeepsOthers.of_grownBy hgrow fun j o ej hj => ?_)).trans (KeepsOthers.setCell _ _ _)
    rcases (hrow.alloc tmp).2 with ⟨rfl, _⟩ | ⟨g, cap, cur, rfl, _, hgb, _⟩
    · simp [Value.ownBlock] at ej
    · obtain rfl : g = j := by simpa [Value.ownBlock] using ej
      rw [hgb] at hj; cases hj; rfl
  · refine (((Below.refl n₀ W).alloc hn₀ tmp).grown hgrow (by simp; omega) fun j ej => ?_).setCell (p := ⟨B, 0, none⟩) hB v'
    have := hob j ej.symm
    omega
  · rw [Below.heap_setCell _ ⟨B, 0, none⟩ _ _ hkB]
    refine (hgrow.block k (by simp; omega) (fun ej => ?_)).trans (Below.heap_alloc W tmp k hkW)
    have := hob k ej
    omega
set_option maxHeartbeats 1000000 in
theorem splitFn_any (s : ByteArray) (w : World) :
    Calls Tryd.prog 39 #[.string s, .string ⟨#[44]⟩] w fun e w' => e = .returned (.func (.func 82) #[] #[.pointer (some ⟨w.heap.size + 1, 0, none⟩), .pointer (some ⟨w.heap.size, 0, none⟩), .pointer (some ⟨w.heap.size + 2, 0, none⟩)]) ∧
      w' = ((w.alloc (.cells #[.string s] 9)).alloc (.cells #[.string ⟨#[44]⟩] 9)).alloc (.cells #[.int .i64 0] 3) := by
  go_enter Tryd.func39, Tryd.ntmps39
  go_wp2
  go_ret
  exact ⟨rfl, rfl⟩
theorem cells_newW (w : World) (o : Obj) (vs : List Value) (t : TypeId) : ∀ j u, vs[j]? = some u → ((w.alloc o).alloc (.cells vs.toArray t)).cell? ((⟨w.heap.size + 1, 0, none⟩ : Addr).add j) = some u := by
  have := cells_newV (w.alloc o) vs t
  rwa [World.size_alloc] at this
theorem row_kept {X Y' : World} {row : Option Nat} {B n₀ size k : Nat} {e : TypeId} {v : Value} {xs : List Value} (hr0 : X.ownsRow n₀ e size v k xs) (hg : X.grownBy Y' row) (hr : ∀ r, row = some r → B ≤ r ∧ ∃ o : Obj, X.heap[r]? = some o ∧ o.isCells = false) : Y'.ownsRow n₀ e size v k xs := by
  refine hr0.kept hg ?_
  rcases hr0.2 with ⟨rfl, _⟩ | ⟨g, cap, cur, rfl, _, hgb, _⟩
  · exact .inl rfl
  · refine .inr fun e' => ?_
    obtain ⟨_, o, ho, hc⟩ := hr g (by simpa [Value.ownBlock] using e'.symm)
    rw [hgb] at ho; cases ho; cases hc
theorem row_keptX {X Y' : World} {B n₀ size k : Nat} {e : TypeId} {v : Value} {xs : List Value} (hr0 : X.ownsRow n₀ e size v k xs) (hg : X.grownBy Y' (some B)) (hB : B < n₀) : Y'.ownsRow n₀ e size v k xs := by
  refine hr0.kept hg ?_
  rcases hr0.2 with ⟨rfl, _⟩ | ⟨g, cap, cur, rfl, hb, hgb, _⟩
  · exact .inl rfl
  · refine .inr fun e' => ?_
    have : g = B := by simpa [Value.ownBlock] using e'
    omega
theorem otherV {W : World} {B b : Nat} {t : TypeId} {v : Value} (h : Boxed W B t v) (hne : B ≠ b) (u : Value) : Boxed (W.setCell ⟨b, 0, none⟩ u) B t v := (Below.heap_setCell W ⟨b, 0, none⟩ u B hne).trans h
theorem putV {W : World} {B D : Nat} {t : TypeId} {v : Value} {o : Obj} (h : Boxed W B t v) (hne : B ≠ D) : Boxed (W.putObj D o) B t v := (World.putObj_heap_other hne).trans h
theorem row_base {W : World} {b b' e size k : Nat} {v : Value} {xs : List Value} (h : W.ownsRow b e size v k xs) (hb : b' ≤ b) : W.ownsRow b' e size v k xs :=
  ⟨h.1, h.2.imp (fun h => h) (fun ⟨g, cap, cur, h1, h2, h3⟩ => ⟨g, cap, cur, h1, Nat.le_trans hb h2, h3⟩)⟩
theorem results_ccV {P : Program} {fn : Func} {t u : Tmp} {T V : TypeId} (h : fn.results = #[.cell t T, .cell u V]) (tmps : Array Value) {w : World} {a b : Addr} {v v2 : Value} (ht : tmps.getD t undef = .pointer (some a)) (hu : tmps.getD u undef = .pointer (some b)) (hv : (Go.loadVar T a).run P w = .ok v w) (hv2 : (Go.loadVar V b).run P w = .ok v2 w) :
    (results fn tmps).run P w = .ok (.tuple #[v, v2]) w := by
  have ht2 : tmps[t]?.getD undef = .pointer (some a) := by rw [← Array.getD_eq_getD_getElem?]; exact ht
  have hu2 : tmps[u]?.getD undef = .pointer (some b) := by rw [← Array.getD_eq_getD_getElem?]; exact hu
  simp [results, h, ht2, hu2, asAddr, hv, hv2]
theorem load_box37 {w : World} {g : Nat} {v : Value} (h : Boxed w g 37 v) : (Go.loadVar 37 ⟨g, 0, none⟩).run Tryd.prog w = .ok v w := by
  have a0 := h.cell
  unfold loadVar
  go_simp
theorem load_box22 {w : World} {g : Nat} {v : Value} (h : Boxed w g 22 v) : (Go.loadVar 22 ⟨g, 0, none⟩).run Tryd.prog w = .ok v w := by
  have a0 := h.cell
  unfold loadVar
  go_simp
/-- Between two rounds. -/
def TI (H : Nat) (w : World) (pre : List Pc) (W : World) : Prop := ∃ (v : Value) (ws : List Wh), mapT (pcs pre) = some ws ∧ Boxed W (H + 2) 37 v ∧ W.ownsRow (H + 6) 32 3 v ws.length (whC ws) ∧
  Boxed W H 37 (.slice none 0 0) ∧ Boxed W (H + 1) 22 (.int .i64 0) ∧ Below H w W ∧ H + 6 ≤ W.heap.size
/-- Behind the round that leaves. -/
def TX (H : Nat) (w : World) (c : Code) (pre : List Pc) (W : World) : Prop := c = .ret ∧ mapT (pcs pre) = none ∧
  Boxed W H 37 (.slice none 0 0) ∧ Boxed W (H + 1) 22 (.int .i64 10) ∧ Below H w W ∧ H + 6 ≤ W.heap.size
set_option maxRecDepth 100000 in
set_option maxHeartbeats 4000000 in
theorem pTimes_any (s : ByteArray) (hs : s.size ≤ 1048576) (w : World) (hv : VV w) :
    Calls Tryd.prog 13 #[.string s] w fun e w' => ∃ v, e = .returned (.tuple #[v, .int .i64 (timesV s.data.toList).2]) ∧ w'.ownsRow w.heap.size 32 3 v (timesV s.data.toList).1.length (whC (timesV s.data.toList).1) ∧ Below w.heap.size w w' := by
  have cc := fun W => Tryd.strings_Count_one s 44 W
  have hlen := splitA_len s.data.toList []
  rw [show Lib.countByte s.data.toList 44 = s.data.toList.count 44 from rfl] at cc
  have hcl : s.data.toList.count 44 ≤ 1048576 := by
    have := List.count_le_length (a := (44 : UInt8)) (l := s.data.toList)
    have := listB s
    omega
  have HVV := Lib.hid hv
  have hb2 : Below w.heap.size w ((w.alloc (.cells #[.slice none 0 0] 37)).alloc (.cells #[.int .i64 0] 22)) := ((Below.refl _ w).alloc (Nat.le_refl _) _).alloc (by simp) _
  have b0 := (Boxed.new w 37 (.slice none 0 0)).alloc (.cells #[.int .i64 0] 22)
  have b1 := Boxed.new (w.alloc (.cells #[.slice none 0 0] 37)) 22 (.int .i64 0)
  simp only [World.size_alloc] at b1
  by_cases hmany : 100 < (splitA [] s.data.toList).length
  · have hcb : (100 : Int) ≤ ((s.data.toList.count 44 : Nat) : Int) := by omega
    have HF : Hid (timesV s.data.toList = ([], 27)) := Lib.hid (by unfold timesV; rw [if_pos hmany])
    generalize s.data.toList.count 44 = C at cc hcb
    have B0 := Lib.hid b0
    have B1 := Lib.hid b1
    have HB2 := Lib.hid hb2
    have c0 := b0.cell
    have f0 := b0.frozen
    have c1 := b1.cell
    have f1 := b1.frozen
    clear b0 b1 hb2
    go_enter Tryd.func13, Tryd.ntmps13
    go_wp2_with (go_at_call 38; refine (cc _).mono ?_; rintro e w' ⟨rfl, hw⟩; subst w')
    have q0 := (Boxed.new w 37 (.slice none 0 0)).alloc (.cells #[.int .i64 27] 22)
    have q1 := Boxed.new (w.alloc (.cells #[.slice none 0 0] 37)) 22 (.int .i64 27)
    simp only [World.size_alloc] at q1
    refine bodyPost_ret (results_ccV rfl _ rfl rfl (load_box37 q0) (load_box22 q1)) rfl ⟨.slice none 0 0, ?_, ?_, ?_⟩
    · rw [HF.out]
    · rw [HF.out]
      exact World.ownsRow_nil _ _ _ _
    · exact ((Below.refl _ w).alloc (Nat.le_refl _) _).alloc (by simp) _
  · have hcb : ¬ (100 : Int) ≤ ((s.data.toList.count 44 : Nat) : Int) := by omega
    generalize s.data.toList.count 44 = C at cc hcb
    refine (callsIn_wide (n := 3)).1 ?_
    refine callsIn_of_wp_marks Tryd.func13 rfl trivial ?_ rfl
    refine wpIn_wide.2 ?_
    simp only [Tryd.ntmps13, List.size_toArray, List.length_cons, List.length_nil, Nat.reduceAdd, Nat.reduceSub, Array.replicate_succ, Array.replicate_zero, List.push_toArray, List.append_toArray, List.nil_append, List.cons_append]
    go_wp2_with (first
      | (go_at_call 38; refine (cc _).mono ?_; rintro e w' ⟨rfl, hw⟩; subst w')
      | (go_at_call 39; refine (splitFn_any s _).mono ?_; rintro e w' ⟨rfl, hw⟩; subst w'))
    refine (wpIn_wide (n := 3)).1 ?_
    simp only [Nat.add_assoc, Nat.reduceAdd]
    obtain ⟨H, hH⟩ : ∃ H, w.heap.size = H := ⟨_, rfl⟩
    have e3 : ((w.alloc (.cells #[.slice none 0 0] 37)).alloc (.cells #[.int .i64 0] 22)).heap.size = H + 2 := by simp [hH]
    rw [hH] at b0 b1 hb2
    simp only [hH]
    generalize (w.alloc (.cells #[.slice none 0 0] 37)).alloc (.cells #[.int .i64 0] 22) = w2 at e3 b0 b1 hb2 ⊢
    have b2 := (((Boxed.new w2 37 (.slice none 0 0)).alloc (.cells #[.string s] 9)).alloc (.cells #[.string ⟨#[44]⟩] 9)).alloc (.cells #[.int .i64 0] 3)
    have b3 := ((Boxed.new (w2.alloc (.cells #[.slice none 0 0] 37)) 9 (.string s)).alloc (.cells #[.string ⟨#[44]⟩] 9)).alloc (.cells #[.int .i64 0] 3)
    have b4 := (Boxed.new ((w2.alloc (.cells #[.slice none 0 0] 37)).alloc (.cells #[.string s] 9)) 9 (.string ⟨#[44]⟩)).alloc (.cells #[.int .i64 0] 3)
    have b5 := Boxed.new (((w2.alloc (.cells #[.slice none 0 0] 37)).alloc (.cells #[.string s] 9)).alloc (.cells #[.string ⟨#[44]⟩] 9)) 3 (.int .i64 0)
    have b0 := (((b0.alloc (.cells #[.slice none 0 0] 37)).alloc (.cells #[.string s] 9)).alloc (.cells #[.string ⟨#[44]⟩] 9)).alloc (.cells #[.int .i64 0] 3)
    have b1 := (((b1.alloc (.cells #[.slice none 0 0] 37)).alloc (.cells #[.string s] 9)).alloc (.cells #[.string ⟨#[44]⟩] 9)).alloc (.cells #[.int .i64 0] 3)
    have hb6 := (((hb2.alloc (by omega) (.cells #[.slice none 0 0] 37)).alloc (by simp; omega) (.cells #[.string s] 9)).alloc (by simp; omega) (.cells #[.string ⟨#[44]⟩] 9)).alloc (by simp; omega) (.cells #[.int .i64 0] 3)
    have e6 : ((((w2.alloc (.cells #[.slice none 0 0] 37)).alloc (.cells #[.string s] 9)).alloc (.cells #[.string ⟨#[44]⟩] 9)).alloc (.cells #[.int .i64 0] 3)).heap.size = H + 6 := by simp [e3]
    simp only [World.size_alloc, e3, Nat.add_assoc, Nat.reduceAdd] at b2 b3 b4 b5
    generalize (((w2.alloc (.cells #[.slice none 0 0] 37)).alloc (.cells #[.string s] 9)).alloc (.cells #[.string ⟨#[44]⟩] 9)).alloc (.cells #[.int .i64 0] 3) = w6 at b0 b1 b2 b3 b4 b5 hb6 e6 ⊢
    clear hb2 e3
    refine rangeFunc_box (n := 3) (gf := 82) (lb := #[.pointer (some ⟨H + 4, 0, none⟩), .pointer (some ⟨H + 3, 0, none⟩), .pointer (some ⟨H + 5, 0, none⟩)]) rfl (enters_of Tryd.func82 (by kernel_rfl) rfl)
      (X := H + 3) (by omega) (split_x (H + 3) H s hs w6 (by omega) b3.cell b3.frozen b4.cell b5.cell) KpS.trans (fun W o o' ho hc => kpS_put (z := H + 6) (by omega) (by omega) W _ o o' (by omega) ho hc) (Below.refl _ _) (fun _ => rfl)
      (TI H w) (TX H w) ?own ?ownx ?box ⟨.slice none 0 0, [], rfl, b2, World.ownsRow_nil _ _ _ _, b0, b1, hb6, by omega⟩
      (fun x => { tmps := #[.string s, undef, .pointer (some ⟨H, 0, none⟩), .pointer (some ⟨H + 1, 0, none⟩), .pointer (some ⟨H + 2, 0, none⟩), .string x.1, undef, undef, .string s, .int .i64 C, .bool (decide ((100 : Int) ≤ (C : Int))), .string s, .func (.func 82) #[] #[.pointer (some ⟨H + 4, 0, none⟩), .pointer (some ⟨H + 3, 0, none⟩), .pointer (some ⟨H + 5, 0, none⟩)], .string x.1, undef, undef, undef, undef, undef, undef, undef, undef, undef, undef, undef, undef], defers := [] }) ?assign ?body ?done ?stop
    case own =>
      rintro pre A B row ⟨v, ws, h1, h2, h3, h4, h5, h6, h7⟩ hg hr
      exact ⟨v, ws, h1, cells_kept hg hr h2, row_kept h3 hg hr, cells_kept hg hr h4, cells_kept hg hr h5, h6.grown hg (by omega) (fun j ej => by have := (hr j ej).1; omega), Nat.le_trans h7 hg.size⟩
    case ownx =>
      rintro c pre A B row ⟨h1, h2, h4, h5, h6, h7⟩ hg hr
      exact ⟨h1, h2, cells_kept hg hr h4, cells_kept hg hr h5, h6.grown hg (by omega) (fun j ej => by have := (hr j ej).1; omega), Nat.le_trans h7 hg.size⟩
    case box =>
      rintro pre A B ⟨v, ws, h1, h2, h3, h4, h5, h6, h7⟩ hg
      have ne : ∀ k, k ≤ H + 2 → some k ≠ some (H + 3) := fun k hk e => by injection e with e; omega
      exact ⟨v, ws, h1, h2.kept hg (ne _ (by omega)), row_keptX h3 hg (by omega), h4.kept hg (ne _ (by omega)), h5.kept hg (ne _ (by omega)), h6.grown hg (by omega) (fun j ej => by injection ej with ej; omega), Nat.le_trans h7 hg.size⟩
    case assign =>
      intro l x W K hK
      gi_wp2
      exact hK
    case body =>
      rintro l pre ⟨x, hx⟩ W ⟨v, ws, hm, b2, row, b0, b1, hB, hsz⟩ hN

      have cT := pTime_any x hx W (HVV.out.step (by rw [hH]; exact hB))
      have htc := timV_case x.data.toList
      have hwl := mapT_len _ _ hm
      have HM := Lib.hid (mapT_snoc (pcs pre) x.data.toList)
      obtain ⟨⟨t, er⟩, hge⟩ : ∃ p, timV x.data.toList = p := ⟨_, rfl⟩
      rw [hge] at cT htc
      have HGE := Lib.hid hge
      unfold whV at cT
      simp only at cT htc
      have hpl : (pcs pre).length ≤ 100 := by simp [pcs]; omega
      rw [hm] at HM
      clear b3 b4 b5 hge
      rcases htc with ⟨rfl, _⟩ | h
      · have HR : Hid (mapT (pcs (pre ++ [(⟨x, hx⟩ : Pc)])) = some (ws ++ [t])) := Lib.hid (by
          rw [show pcs (pre ++ [(⟨x, hx⟩ : Pc)]) = pcs pre ++ [x.data.toList] by simp [pcs], HM.out, HGE.out]; rfl)
        obtain ⟨i0, hi, hz0, hz1, hz2⟩ := info_parts infoW
        have BB := Lib.hid (And.intro b2 (And.intro row (And.intro b0 (And.intro b1 (And.intro hB hsz)))))
        have hwb : ws.length ≤ 100 := by omega
        clear b2 row b0 b1 hB hm hwl hpl
        dsimp only
        gi_wp2_with (first
          | (refine ⟨trivial, ?_⟩; gi_at_call 11; refine (CallsIn.inRound l (callsIn_wide.2 cT)).mono ?_; rintro e W1 ⟨rfl, hb1⟩
             obtain ⟨b2, row, b0, b1, hB, hsz2⟩ := BB.out
             have ha : Below W1.heap.size W1 (W1.alloc (.cells #[.int .i64 t.secs, .bool t.utc, .bool t.date] 32)) := (Below.refl _ W1).alloc (Nat.le_refl _) _
             have k2 : Boxed (W1.alloc (.cells #[.int .i64 t.secs, .bool t.utc, .bool t.date] 32)) (H + 2) 37 v := (bstep hb1 ha).block _ b2.lt |>.trans b2
             have r2 := own_below row (bstep hb1 ha)
             have c2 := k2.cell
             obtain ⟨y0, y1, y2⟩ := (H3.new W1 t).cells
             have HK := Lib.hid (And.intro k2 r2)
             have HB1 := Lib.hid (bstep hb1 ha)
             clear b2 row b0 b1 hB ha k2 hb1)
          | (gi_at_builtin
             refine wpListIn_append_own _ rfl _ _ 37 rfl (H + 6) 32 i0 (.agg #[.int .i64 0, .bool false, .bool false]) 3 16 Tryd.underlying37 hi hz0 hz1 hz2 rfl (by decide) _ _ _ rfl (HK.out.2.alloc _) ⟨_, 0, none⟩ 1 1 [.int .i64 t.secs, .bool t.utc, .bool t.date] rfl rfl (cells_newW _ _ [.int .i64 t.secs, .bool t.utc, .bool t.date] _) (by simp [Value.oneCell']) (by unfold maxLen; omega) (by omega) (by have := HB1.out.size; simp at this ⊢; omega) ?_
             intro v' w1 hown' hgrow _
             obtain ⟨g', cap', rfl⟩ := ownsRow_succ hown'
             obtain ⟨q1, q2, q3, q4, q5, q6⟩ := append_two (n₀ := H) HK.out.1 (by decide) HK.out.2 (by omega) (by have := HB1.out.size; simp at this ⊢; omega) (by omega) hown' hgrow
             have cq := q1.cell
             have fq := q1.frozen
             have HQ := Lib.hid (And.intro q2 (And.intro q3 (And.intro q4 (And.intro q5 q6))))
             clear c2 q1 q2 q3 q4 q5 q6 hown' hgrow))
        obtain ⟨b2, row, b0, b1, hB, hsz2⟩ := BB.out
        obtain ⟨q2, q3, q4, q5, q6⟩ := HQ.out
        have hB1 := HB1.out
        have hz1 : W.heap.size ≤ (W1.alloc (.cells #[.int .i64 t.secs, .bool t.utc, .bool t.date] 32)).heap.size := hB1.size
        have kept : ∀ k, k < H + 6 → k ≠ H + 2 → (w1.setCell ⟨H + 2, 0, none⟩ (.slice (some ⟨g', 0, none⟩) (ws.length + 1) cap')).heap[k]? = W.heap[k]? := fun k h1 h2 => (q6 k h1 (by omega) h2).trans (hB1.block k (by omega))
        refine ⟨(keepV hB1).trans (q4.from _), ⟨(hB1.mono (by omega)).trans q5, kept _ (by omega) (by omega), kept _ (by omega) (by omega), kept _ (by omega) (by omega)⟩, ⟨_, ws ++ [t], HR.out, q2, ?_, (kept _ (by omega) (by omega)).trans b0, (kept _ (by omega) (by omega)).trans b1, hB.trans ((hB1.mono (by omega)).trans q5), ?_⟩⟩
        · rw [whC_app, List.length_append]
          exact q3
        · have := q5.size
          omega
      · injection h with h1 h2
        subst h1 h2
        have HR : Hid (mapT (pcs (pre ++ [(⟨x, hx⟩ : Pc)])) = none) := Lib.hid (by
          rw [show pcs (pre ++ [(⟨x, hx⟩ : Pc)]) = pcs pre ++ [x.data.toList] by simp [pcs], HM.out, HGE.out]; rfl)
        have BB := Lib.hid (And.intro b2 (And.intro row (And.intro b0 (And.intro b1 (And.intro hB hsz)))))
        clear b2 row b0 b1 hB hm hwl hpl
        dsimp only
        gi_wp2_with (refine ⟨trivial, ?_⟩; gi_at_call 11; refine (CallsIn.inRound l (callsIn_wide.2 cT)).mono ?_; rintro e W1 ⟨rfl, hb1⟩
                     obtain ⟨b2, row, b0, b1, hB, hsz2⟩ := BB.out
                     have k0 : Boxed W1 H 37 (.slice none 0 0) := (hb1.block _ b0.lt).trans b0
                     have k1 : Boxed W1 (H + 1) 22 (.int .i64 0) := (hb1.block _ b1.lt).trans b1
                     have c0 := k0.cell
                     have f0 := k0.frozen
                     have c1 := k1.cell
                     have f1 := k1.frozen
                     have c0a := (k0.alloc (.cells #[.int .i64 Wh.zero.secs, .bool Wh.zero.utc, .bool Wh.zero.date] 32)).cell
                     have f0a := (k0.alloc (.cells #[.int .i64 Wh.zero.secs, .bool Wh.zero.utc, .bool Wh.zero.date] 32)).frozen
                     have c1a := (k1.alloc (.cells #[.int .i64 Wh.zero.secs, .bool Wh.zero.utc, .bool Wh.zero.date] 32)).cell
                     have f1a := (k1.alloc (.cells #[.int .i64 Wh.zero.secs, .bool Wh.zero.utc, .bool Wh.zero.date] 32)).frozen
                     have hl0 := k0.lt
                     have hl1 := k1.lt
                     have HK := Lib.hid (And.intro k0 (And.intro k1 hb1))
                     clear b2 row b0 b1 hB k0 k1 hb1)
        obtain ⟨b2, row, b0, b1, hB, hsz2⟩ := BB.out
        obtain ⟨k0, k1, hb1⟩ := HK.out
        have hs1 := hb1.size
        refine ⟨(keepV hb1).trans (((KeepsOthers.setCell _ _ _).from _).trans (((KeepsOthers.setCell _ _ _).from _).trans ((KeepsOthers.alloc _ _).from _))), rfl, HR.out, ((otherV (k0.set (.slice none 0 0)) (by omega) _).alloc _), (((otherV k1 (by omega) _).set (.int .i64 10)).alloc _), ?_, ?_⟩
        · exact hB.trans ((((hb1.mono (show H ≤ W.heap.size by omega)).setCell (p := ⟨H, 0, none⟩) (Nat.le_refl _) _).setCell (p := ⟨H + 1, 0, none⟩) (by show H ≤ H + 1; omega) _).alloc (by simp; omega) _)
        · simp
          omega
    case done =>
      rintro D ys W hD hys ⟨v, ws, hm, k2, row, k0, k1, hB, hsz⟩ hK
      have HF : Hid (timesV s.data.toList = (ws, 0)) := Lib.hid (by
        unfold timesV
        rw [if_neg hmany, ← hys, hm])
      clear b0 b1 b2 b3 b4 b5 hm hys
      have hD6 : H + 6 ≤ D := by omega
      have c2 := k2.cell
      have c0 := k0.cell
      have f0 := k0.frozen
      have c1 := k1.cell
      have f1 := k1.frozen
      have hrow := row
      have hv12 : v = .slice none 0 0 ∨ ∃ g n c, v = .slice (some ⟨g, 0, none⟩) n c := by
        rcases row.2 with ⟨rfl, _⟩ | ⟨g, cap, cur, rfl, _⟩
        · exact .inl rfl
        · exact .inr ⟨g, _, cap, rfl⟩
      have HALL := Lib.hid (And.intro hrow (And.intro k0 (And.intro k1 (And.intro hB hK))))
      clear row hrow k2 k0 k1 hB hK
      rcases hv12 with rfl | ⟨g, n, c, rfl⟩
      · go_wp2
        obtain ⟨hrow, k0, k1, hB, hK⟩ := HALL.out
        have hh : H < W.heap.size := k0.lt
        refine ⟨by simp, .inl ⟨_, _, rfl, run_takeDeferred (((Below.heap_setCell _ ⟨H + 1, 0, none⟩ _ D (by show D ≠ H + 1; omega)).trans (Below.heap_setCell _ ⟨H, 0, none⟩ _ D (by show D ≠ H; omega))).trans hK), ?_⟩⟩
        have q0 := fun V => otherV (b := H + 1) (k0.set V) (by omega) (.int .i64 0)
        have q1 := fun V => (otherV (b := H) k1 (by omega) V).set (.int .i64 0)
        refine ⟨_, results_ccV rfl _ rfl rfl (load_box37 (putV (q0 _) (by omega))) (load_box22 (putV (q1 _) (by omega))), .slice none 0 0, by rw [HF.out], ?_, ?_⟩
        · rw [HF.out, hH]
          have hrow2 := row_keptX hrow (grownBy_setCell' W H (.slice none 0 0)) (show H < H + 6 by omega)
          exact ownsRow_putObj (row_base (row_keptX hrow2 (grownBy_setCell' _ (H + 1) (.int .i64 0)) (show H + 1 < H + 6 by omega)) (show H ≤ H + 6 by omega)) _ (((Below.heap_setCell _ ⟨H + 1, 0, none⟩ _ D (by show D ≠ H + 1; omega)).trans (Below.heap_setCell _ ⟨H, 0, none⟩ _ D (by show D ≠ H; omega))).trans hK) rfl
        · rw [hH]
          exact ((hB.setCell (p := ⟨H, 0, none⟩) (Nat.le_refl _) _).setCell (p := ⟨H + 1, 0, none⟩) (by show H ≤ H + 1; omega) _).trans (belowV_put (z := H) (Nat.le_refl _) (by omega) _ _ _ (((Below.heap_setCell _ ⟨H + 1, 0, none⟩ _ D (by show D ≠ H + 1; omega)).trans (Below.heap_setCell _ ⟨H, 0, none⟩ _ D (by show D ≠ H; omega))).trans hK) rfl)
      · go_wp2
        obtain ⟨hrow, k0, k1, hB, hK⟩ := HALL.out
        have hh : H < W.heap.size := k0.lt
        refine ⟨by simp, .inl ⟨_, _, rfl, run_takeDeferred (((Below.heap_setCell _ ⟨H + 1, 0, none⟩ _ D (by show D ≠ H + 1; omega)).trans (Below.heap_setCell _ ⟨H, 0, none⟩ _ D (by show D ≠ H; omega))).trans hK), ?_⟩⟩
        have q0 := fun V => otherV (b := H + 1) (k0.set V) (by omega) (.int .i64 0)
        have q1 := fun V => (otherV (b := H) k1 (by omega) V).set (.int .i64 0)
        refine ⟨_, results_ccV rfl _ rfl rfl (load_box37 (putV (q0 _) (by omega))) (load_box22 (putV (q1 _) (by omega))), .slice (some ⟨g, 0, none⟩) n c, by rw [HF.out], ?_, ?_⟩
        · rw [HF.out, hH]
          have hrow2 := row_keptX hrow (grownBy_setCell' W H (.slice (some ⟨g, 0, none⟩) n c)) (show H < H + 6 by omega)
          exact ownsRow_putObj (row_base (row_keptX hrow2 (grownBy_setCell' _ (H + 1) (.int .i64 0)) (show H + 1 < H + 6 by omega)) (show H ≤ H + 6 by omega)) _ (((Below.heap_setCell _ ⟨H + 1, 0, none⟩ _ D (by show D ≠ H + 1; omega)).trans (Below.heap_setCell _ ⟨H, 0, none⟩ _ D (by show D ≠ H; omega))).trans hK) rfl
        · rw [hH]
          exact ((hB.setCell (p := ⟨H, 0, none⟩) (Nat.le_refl _) _).setCell (p := ⟨H + 1, 0, none⟩) (by show H ≤ H + 1; omega) _).trans (belowV_put (z := H) (Nat.le_refl _) (by omega) _ _ _ (((Below.heap_setCell _ ⟨H + 1, 0, none⟩ _ D (by show D ≠ H + 1; omega)).trans (Below.heap_setCell _ ⟨H, 0, none⟩ _ D (by show D ≠ H; omega))).trans hK) rfl)
    case stop =>
      rintro D c pre W hD ⟨rest, hrest⟩ ⟨rfl, hm, k0, k1, hB, hsz⟩ hK
      have HF : Hid (timesV s.data.toList = ([], 10)) := Lib.hid (by
        unfold timesV
        rw [if_neg hmany, ← hrest, mapT_pre _ _ hm])
      have hD6 : H + 6 ≤ D := by omega
      refine wpIn_wide.2 (wp_ret ?_)
      refine ⟨by simp, .inl ⟨_, _, rfl, run_takeDeferred hK, ?_⟩⟩
      refine ⟨_, results_ccV rfl _ rfl rfl (load_box37 (putV k0 (by omega))) (load_box22 (putV k1 (by omega))), .slice none 0 0, ?_, ?_, ?_⟩
      · rw [HF.out]
      · rw [HF.out]
        exact World.ownsRow_nil _ _ _ _
      · rw [hH]
        exact hB.trans (belowV_put (z := H) (Nat.le_refl _) (by omega) _ _ _ hK rfl)
end Go.Proofs.YtdilnofolnabdaaDoor
