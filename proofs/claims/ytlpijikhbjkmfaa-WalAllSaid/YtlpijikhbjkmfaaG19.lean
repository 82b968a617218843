/-
  The library's iterator over a slice's pieces of 64.
-/
import Derived.Test.YtlpijikhbjkmfaaG17
import Derived.Test.YtlpijikhbjkmfaaG18
namespace Go.Proofs.Ytlpijikhbjkmfaa
open Go.RowKit Go.Shelf
attribute [local go_sem] Oper.semAt_some

theorem keeps_below {W W' : World} (h : Below W.heap.size W W') : KeepsOthers W W' := ⟨h.size, fun k _ hk _ => (h.block k (Array.getElem?_eq_some_iff.1 hk).1).trans hk⟩
/-- A slice's piece. -/
def pieceL (N k : Nat) : Nat := min 64 (N - 64 * k)
abbrev encsPiece (b o N : Nat) {m : Nat} (t : Fin m) : Array Value := #[.slice (some ⟨b, o + 64 * t.val, none⟩) (pieceL N t.val) (pieceL N t.val)]
/-- What a round keeps: what lay below n₀, and the iterator's boxes. -/
structure KpC (n₀ Bs Bn : Nat) (A B : World) : Prop where
  below : Below n₀ A B
  bs : B.heap[Bs]? = A.heap[Bs]?
  bn : B.heap[Bn]? = A.heap[Bn]?
theorem KpC.trans {n₀ Bs Bn : Nat} {A B C : World} (h : KpC n₀ Bs Bn A B) (k : KpC n₀ Bs Bn B C) : KpC n₀ Bs Bn A C := ⟨h.below.trans k.below, k.bs.trans h.bs, k.bn.trans h.bn⟩
theorem KpC.refl {n₀ Bs Bn : Nat} (A : World) : KpC n₀ Bs Bn A A := ⟨Below.refl _ _, rfl, rfl⟩
theorem kpC_put {n₀ Bs Bn z : Nat} (hn : n₀ ≤ z) (hs : Bs < z) (hs2 : Bn < z) (W : World) (l : Nat) (o o' : Obj) (hl : z ≤ l) (ho : W.heap[l]? = some o) (_hc : o.isCells = false) (_hw : o.isWalk = false) : KpC n₀ Bs Bn W (W.putObj l o') :=
  ⟨(Below.refl n₀ W).trans (putB_below hn hl W o o' ho), World.putObj_heap_other (by omega), World.putObj_heap_other (by omega)⟩

set_option maxRecDepth 100000 in
set_option maxHeartbeats 2000000 in
theorem chunk1_in (F : Fence) (n : Nat) (h6 : F.fn 90) (hro : F.round = none) (hn : 1 ≤ n) (l Bs Bn n₀ b o N c m : Nat) (hNc : N ≤ c) (hm : m = (N + 63) / 64) (hN5 : N ≤ 512) (hN : c ≤ 9223372036854775807) (J Jx : List (Fin m) → World → Prop)
    (hY : ∀ (pre : List (Fin m)) (t : Fin m) (W : World), J pre W → pre.length < m → YieldAt F (n - 1) Try.prog l (encsPiece b o N t) W fun e W' =>
      (e = .returned (.bool true) ∧ J (pre ++ [t]) W' ∧ KpC n₀ Bs Bn W W') ∨ (e = .returned (.bool false) ∧ Jx (pre ++ [t]) W'))
    (W : World) (hBs : W.cell? ⟨Bs, 0, none⟩ = some (.slice (some ⟨b, o, none⟩) N c)) (hBn : W.cell? ⟨Bn, 0, none⟩ = some (.int .i64 64)) (hJd : ∀ pre A, J pre A → J pre A.drew) (h0 : J [] W) :
    CallsIn F n Try.prog 90 #[.func (.yield l) #[] #[], .pointer (some ⟨Bs, 0, none⟩), .pointer (some ⟨Bn, 0, none⟩)] W fun e W' => (∃ v, e = .returned v) ∧
      ((∃ ys, ys = upN m m ∧ J ys W') ∨ (∃ pre, (∃ k, k ≤ m ∧ pre = upN m k) ∧ Jx pre W')) := by
  have hmx : Try.prog.follows .mixedOrders = true := by kernel_rfl
  refine callsIn_of_wp Try.func90 rfl h6 ?_ hro
  simp only [Try.ntmps90, List.size_toArray, List.length_cons, List.length_nil, Nat.reduceAdd, Nat.reduceSub, Array.replicate_succ, Array.replicate_zero, List.push_toArray, List.append_toArray, List.nil_append, List.cons_append]
  gi_wp2
  gi_loopw [4] (fun p wr => ∃ k : Nat, p = .int .i64 (64 * (k : Int)) ∧ k ≤ m ∧ J (upN m k) wr ∧ wr.cell? ⟨Bs, 0, none⟩ = some (.slice (some ⟨b, o, none⟩) N c) ∧ wr.cell? ⟨Bn, 0, none⟩ = some (.int .i64 64)) (fun p _ => ((N : Int) - intOf p).toNat)
  case atStart => exact ⟨0, by simp, by omega, by simpa [upN] using h0, hBs, hBn⟩
  case round =>
    obtain ⟨k, rfl, hk, hJ, hcs, hcn⟩ := hrel
    by_cases h : k < m
    · have hlt : 64 * (k : Int) < (N : Int) := by omega
      obtain ⟨q, hq⟩ : ∃ q : Nat, q = pieceL N k := ⟨_, rfl⟩
      have hmin : min (64 : Int) ((N - 64 * k : Nat) : Int) = (q : Int) := by rw [hq]; unfold pieceL; omega
      have hq1 : 1 ≤ q := by rw [hq]; unfold pieceL; omega
      have hq2 : 64 * k + q ≤ N := by rw [hq]; unfold pieceL; omega
      obtain ⟨fn, tmps, assign, body, hy, hRR⟩ := hY (upN m k) ⟨k, h⟩ wr.drew (hJd _ _ hJ) (by rw [upN_length m k (by omega)]; exact h)
      dsimp only [encsPiece] at hy
      rw [← hq] at hy
      have htn : (64 * (k : Int) + (q : Int)).toNat - 64 * k = q := by omega
      have hle1 : 64 * (k : Int) + (q : Int) ≤ (c : Int) := by omega
      have HQ := Lib.hid hq; clear hq
      gi_wp2_with fail
      refine wpIn_mono (Q := fun e a' w' => e = .normal ∧ w' = wr.drew ∧ a' = { tmps := #[.func (.yield l) #[] #[], .pointer (some ⟨Bs, 0, none⟩), .pointer (some ⟨Bn, 0, none⟩), undef, .int .i64 (64 * (k : Int)), .int .i64 (q : Int), .int .i64 (64 * (k : Int)), .slice (some ⟨b, o, none⟩) N c, .int .i64 (N : Int), .bool true, u10, u11, u12, .int .i64 64, .slice (some ⟨b, o, none⟩) N c, .int .i64 (64 * (k : Int)), .slice (some ⟨b, o + 64 * k, none⟩) (N - 64 * k) (c - 64 * k), .int .i64 ((N - 64 * k : Nat) : Int), .int .i64 (q : Int), u19, u20, u21, u22, u23, u24, u25, u26, u27, u28, u29, u30], defers := [] }) ?_ ?_
      · gi_region_with_o (fail)
        all_goals exact ⟨rfl, rfl, rfl⟩
      rintro e a' w' ⟨rfl, rfl, hact⟩
      subst hact
      gi_wp2
      refine hRR.mono ?_
      rintro e W3 (⟨rfl, hJ3, hk3⟩ | ⟨rfl, hJx3⟩)
      · have hcs3 := (World.cell?_of_block hk3.bs).trans hcs
        have hcn3 := (World.cell?_of_block hk3.bn).trans hcn
        have HJ := Lib.hid hJ3; clear hJ3
        gi_wp2
        go_roundw
        case rel => exact ⟨k + 1, congrArg (Value.int .i64) (by omega), by omega, by rw [upN_succ m k h]; exact HJ.out, hcs3, hcn3⟩
        case measure => simp [intOf]; omega
      · gi_wp2
        refine bodyPost_ret (results_none rfl _ _ _) rfl ?_
        exact ⟨⟨_, rfl⟩, .inr ⟨_, ⟨k + 1, by omega, (upN_succ m k h).symm⟩, hJx3⟩⟩
    · have hmk : k = m := by omega
      have hnlt : ¬ 64 * (m : Int) < (N : Int) := by omega
      clear hm
      subst hmk
      gi_wp2
      go_end0
      exact ⟨⟨_, rfl⟩, .inl (by first | exact hJ | exact ⟨_, rfl, hJ⟩)⟩

set_option maxHeartbeats 1000000 in
theorem chunk_in (F : Fence) (n : Nat) (h5 : F.fn 74) (hro : F.round = none) (A : Option Addr) (N c : Nat) (w : World) :
    CallsIn F n Try.prog 74 #[.slice A N c, .int .i64 64] w fun e w' => e = .returned (.func (.func 90) #[] #[.pointer (some ⟨w.heap.size, 0, none⟩), .pointer (some ⟨w.heap.size + 1, 0, none⟩)]) ∧ w' = (w.alloc (.cells #[.slice A N c] 41)).alloc (.cells #[.int .i64 64] 3) := by
  have hmf : ∀ (fn : Fn) (first cap : Array Value) (w : World), (Instr.makeFunc fn first cap).run Try.prog w = .ok (.func fn first cap) w := fun _ _ _ _ => rfl
  refine callsIn_of_wp Try.func74 rfl h5 ?_ hro
  simp only [Try.ntmps74, List.size_toArray, List.length_cons, List.length_nil, Nat.reduceAdd, Nat.reduceSub, Array.replicate_succ, Array.replicate_zero, List.push_toArray, List.append_toArray, List.nil_append, List.cons_append]
  gi_wp2
  go_ret
  exact ⟨rfl, rfl⟩

theorem chunk_stops (F : Fence) (n : Nat) (h6 : F.fn 90) (hro : F.round = none) (hn : 1 ≤ n) (Bs Bn n₀ b o N c m : Nat) (hNc : N ≤ c) (hm : m = (N + 63) / 64) (hN5 : N ≤ 512) (hN : c ≤ 9223372036854775807) (w : World) (hBs : Bs < w.heap.size) (hBn : Bn < w.heap.size)
    (hcs : w.cell? ⟨Bs, 0, none⟩ = some (.slice (some ⟨b, o, none⟩) N c)) (hcn : w.cell? ⟨Bn, 0, none⟩ = some (.int .i64 64)) :
    SeqStopsK F n Try.prog 90 #[.pointer (some ⟨Bs, 0, none⟩), .pointer (some ⟨Bn, 0, none⟩)] (fun t : Fin m => encsPiece b o N t) (KpC n₀ Bs Bn) (fun ys => ys = upN m m) (fun pre => ∃ k, k ≤ m ∧ pre = upN m k) m w := fun l J Jx W hW hJ _ hY h0 =>
  chunk1_in F n h6 hro hn l Bs Bn n₀ b o N c m hNc hm hN5 hN J Jx hY W ((hW.cell (p := ⟨Bs, 0, none⟩) hBs).trans hcs) ((hW.cell (p := ⟨Bn, 0, none⟩) hBn).trans hcn) (fun pre A h => hJ pre A A.drew none h ⟨rfl, rfl, rfl, Nat.le_refl _, fun _ _ _ => rfl⟩ (fun r e => by cases e)) h0

end Go.Proofs.Ytlpijikhbjkmfaa

/-
  The blocks of the list: places in pieces of 64, out of the library's iterator over pieces.
-/
namespace Go.Proofs.Ytlpijikhbjkmfaa
open Go.RowKit Go.Shelf
attribute [local go_sem] Oper.semAt_some

theorem Reads.piece {w : World} {B b o N : Nat} {l : List Nat} (h : Reads w B 1 (some ⟨b, o, none⟩) N (encN l)) (k : Nat) (hk : 64 * k < N) : Reads w B 1 (some ⟨b, o + 64 * k, none⟩) (pieceL N k) (encN ((l.drop (64 * k)).take 64)) := by
  have hl := h.lenN
  refine ⟨by rw [encN_length, List.length_take, List.length_drop]; unfold pieceL; omega, fun _ => ?_⟩
  obtain ⟨b', o', e, hb, hc⟩ := h.2 (by omega)
  simp only [Option.some.injEq, Addr.mk.injEq, and_true] at e
  obtain ⟨rfl, rfl⟩ := e
  refine ⟨b, o + 64 * k, rfl, hb, fun j u hu => ?_⟩
  rw [show o + 64 * k + j = o + (64 * k + j) by omega]
  refine hc _ u ?_
  unfold encN at hu ⊢
  rw [List.getElem?_map, List.getElem?_take] at hu
  rw [List.getElem?_map]
  split at hu
  · rwa [List.getElem?_drop] at hu
  · cases hu
/-- The list's blocks. -/
def pieceB (l : List Nat) (k : Nat) : ByteArray := padL (placesL ((l.drop (64 * k)).take 64))
def listB (l : List Nat) : List ByteArray := (List.range ((l.length + 63) / 64)).map (pieceB l)
theorem upN_vals (m k : Nat) (h : k ≤ m) : (upN m k).map (fun t : Fin m => t.val) = List.range k := by
  induction k with
  | zero => simp [upN]
  | succ j ih => rw [upN_succ m j (by omega), List.map_append, ih (by omega), List.range_succ]; rfl
theorem upN_map (m : Nat) (f : Nat → ByteArray) : (upN m m).map (fun t : Fin m => f t.val) = (List.range m).map f := by
  rw [← upN_vals m m (Nat.le_refl _), List.map_map]; rfl

/-- What stands while the list is made. -/
structure LW (l : List Nat) (m : Nat) (S : Value) (w : World) (pre : List (Fin m)) (A2 : Option Addr) (c2 : Nat) (W : World) : Prop where
  bx : Boxed W w.heap.size 22 (.slice A2 pre.length c2)
  row : W.ownsRow w.heap.size 9 1 (.slice A2 pre.length c2) pre.length (encS (pre.map fun t => pieceB l t.val))
  bs : Boxed W (w.heap.size + 1) 41 S
  bn : Boxed W (w.heap.size + 2) 3 (.int .i64 64)
  below : Below w.heap.size w W
/-- Between two rounds. -/
def ListInv (l : List Nat) (m : Nat) (S : Value) (w : World) (pre : List (Fin m)) (W : World) : Prop := ∃ A2 c2, LW l m S w pre A2 c2 W
structure LK (l : List Nat) (m : Nat) (S : Value) (w : World) (pre : List (Fin m)) (A2 : Option Addr) (c2 : Nat) (W X : World) : Prop where
  l0 : LW l m S w pre A2 c2 W
  ko : KeepsOthers W X
  kb : Below w.heap.size W X
  lw : LW l m S w pre A2 c2 X
section
variable {l : List Nat} {m : Nat} {S : Value} {w : World} {pre : List (Fin m)} {A2 : Option Addr} {c2 : Nat} {W X Y : World}
theorem LW.drew (h : LW l m S w pre A2 c2 W) : LW l m S w pre A2 c2 W.drew := ⟨h.bx, h.row, h.bs, h.bn, h.below.drew⟩
theorem LW.step (h : LW l m S w pre A2 c2 X) (hb : Below X.heap.size X Y) : LW l m S w pre A2 c2 Y :=
  ⟨(hb.block _ h.bx.lt).trans h.bx, own_below h.row hb, (hb.block _ h.bs.lt).trans h.bs, (hb.block _ h.bn.lt).trans h.bn, h.below.trans (hb.mono h.below.size)⟩
theorem LK.start (h : LW l m S w pre A2 c2 W) : LK l m S w pre A2 c2 W W.drew := ⟨h, KeepsOthers.drew _, (Below.refl _ _).drew, h.drew⟩
theorem LK.step (h : LK l m S w pre A2 c2 W X) (hb : Below X.heap.size X Y) : LK l m S w pre A2 c2 W Y :=
  ⟨h.l0, h.ko.trans (keeps_below hb), h.kb.trans (hb.mono h.lw.below.size), h.lw.step hb⟩
/-- One block more. -/
theorem LK.put (h : LK l m S w pre A2 c2 W X) {t : Fin m} {A6 : Option Addr} {c6 : Nat} (hrow : Y.ownsRow w.heap.size 9 1 (.slice A6 (pre.length + 1) c6) (pre.length + 1) (encS (pre.map fun t => pieceB l t.val) ++ [.string (pieceB l t.val)]))
    (hg : X.grownBy Y (Value.slice A2 pre.length c2).ownBlock) : KeepsFrom (w.heap.size + 3) W (Y.setCell ⟨w.heap.size, 0, none⟩ (.slice A6 (pre.length + 1) c6)) ∧ KpC w.heap.size (w.heap.size + 1) (w.heap.size + 1 + 1) W (Y.setCell ⟨w.heap.size, 0, none⟩ (.slice A6 (pre.length + 1) c6)) ∧ ListInv l m S w (pre ++ [t]) (Y.setCell ⟨w.heap.size, 0, none⟩ (.slice A6 (pre.length + 1) c6)) := by
  have n0 := h.lw.bx.not_row (by decide) h.lw.row
  have n1 := h.lw.bs.not_row (by decide) h.lw.row
  have n2 := h.lw.bn.not_row (by decide) h.lw.row
  have x1 := h.lw.bx.kept hg n0
  have s1 := h.lw.bs.kept hg n1
  have b1 := h.lw.bn.kept hg n2
  have hbY : Below w.heap.size X Y := (Below.refl _ _).grown hg h.lw.below.size (fun q hq => own_row_ge h.lw.row _ hq)
  have hbZ : Below w.heap.size X (Y.setCell ⟨w.heap.size, 0, none⟩ (.slice A6 (pre.length + 1) c6)) := hbY.setCell (p := ⟨w.heap.size, 0, none⟩) (Nat.le_refl _) _
  refine ⟨?_, ⟨h.kb.trans hbZ, ?_, ?_⟩, A6, c6, ?_⟩
  · refine KeepsFrom.trans (h.ko.from _) (KeepsFrom.trans ((KeepsOthers.of_grownBy hg fun q ob hq hob => ?_).from _) ((KeepsOthers.setCell _ _ _).from _))
    rcases h.lw.row.2 with ⟨hv, _⟩ | ⟨g', cap, cur, hv, _, hh, _⟩
    · rw [hv] at hq; cases hq
    · rw [hv] at hq
      obtain rfl : g' = q := by simpa [Value.ownBlock] using hq
      rw [hh] at hob
      injection hob with hob
      rw [← hob]; rfl
  · exact (s1.other (B' := w.heap.size) (by omega) _).trans h.l0.bs.symm
  · exact (b1.other (B' := w.heap.size) (by omega) _).trans h.l0.bn.symm
  · have e1 : (pre ++ [t]).length = pre.length + 1 := by simp
    refine ⟨by rw [e1]; exact x1.set _, ?_, s1.other (by omega) _, b1.other (by omega) _, h.lw.below.trans hbZ⟩
    rw [e1, List.map_append]
    have hf := own_farB hrow w.heap.size (fun e => x1.not_row (by decide) hrow e.symm) 0 (.slice A6 (pre.length + 1) c6)
    exact own_eq_vals hf (by simp [encS])
end

set_option maxRecDepth 100000 in
set_option maxHeartbeats 4000000 in
theorem list_any (b o N c : Nat) (l : List Nat) (w : World) (h : Reads w w.heap.size 1 (some ⟨b, o, none⟩) N (encN l)) (h0 : 0 < N) (hNc : N ≤ c) (hN : N ≤ 512) (hc : c ≤ 9223372036854775807) (hl : ∀ k, k < N → l.getD k 0 < 65536) :
    Calls Try.prog 57 #[.slice (some ⟨b, o, none⟩) N c] w fun e w' => ∃ A2 c2, e = .returned (.slice A2 (listB l).length c2) ∧ w'.ownsRow w.heap.size 9 1 (.slice A2 (listB l).length c2) (listB l).length (encS (listB l)) ∧ Below w.heap.size w w' := by
  obtain ⟨i0, hi0, hz0, hz1, hz2⟩ := info_parts infoS
  have hmx : Try.prog.follows .mixedOrders = true := by kernel_rfl
  obtain ⟨m, hm⟩ : ∃ m, m = (N + 63) / 64 := ⟨_, rfl⟩
  have H := Lib.hid h
  have HL := Lib.hid h.lenN
  have HS := Lib.hid hl
  clear h hl
  have HM : Hid (listB l = (List.range m).map (pieceB l)) := Lib.hid (by unfold listB; rw [HL.out, ← hm])
  rw [HM.out]
  refine (callsIn_wide (n := 3)).1 ?_
  refine callsIn_of_wp_marks Try.func57 rfl trivial ?_ rfl
  refine wpIn_wide.2 ?_
  simp only [Try.ntmps57, List.size_toArray, List.length_cons, List.length_nil, Nat.reduceAdd, Nat.reduceSub, Array.replicate_succ, Array.replicate_zero, List.push_toArray, List.append_toArray, List.nil_append, List.cons_append]
  go_wp2_with (go_at_call 74; refine ((callsIn_wide (n := 2)).1 (chunk_in Fence.wide 2 trivial rfl _ _ _ _)).mono ?_; rintro e w' ⟨rfl, rfl⟩)
  refine (wpIn_wide (n := 3)).1 ?_
  have hB0 : Below w.heap.size w (((w.alloc (.cells #[.slice none 0 0] 22)).alloc (.cells #[.slice (some ⟨b, o, none⟩) N c] 41)).alloc (.cells #[.int .i64 64] 3)) := (((Below.refl _ w).alloc (Nat.le_refl _) _).alloc (by simp) _).alloc (by simp; omega) _
  have bX := ((Boxed.new w 22 (.slice none 0 0)).alloc (.cells #[.slice (some ⟨b, o, none⟩) N c] 41)).alloc (.cells #[.int .i64 64] 3)
  have bS := (Boxed.new (w.alloc (.cells #[.slice none 0 0] 22)) 41 (.slice (some ⟨b, o, none⟩) N c)).alloc (.cells #[.int .i64 64] 3)
  have bN := Boxed.new ((w.alloc (.cells #[.slice none 0 0] 22)).alloc (.cells #[.slice (some ⟨b, o, none⟩) N c] 41)) 3 (.int .i64 64)
  simp only [World.size_alloc] at bX bS bN
  have hm8 : m ≤ 8 := by omega
  refine wpIn_rangeFunc_ownG rfl (by omega) (gf := 90) (lb := #[.pointer (some ⟨w.heap.size + 1, 0, none⟩), .pointer (some ⟨w.heap.size + 1 + 1, 0, none⟩)]) rfl trivial (enters_of Try.func90 (by kernel_rfl) rfl)
    (chunk_stops Fence.wide 2 trivial rfl (by omega) (w.heap.size + 1) (w.heap.size + 1 + 1) (n₀ := w.heap.size) b o N c m hNc hm hN hc _ (by simp) (by simp) bS.cell bN.cell) KpC.trans (kpC_put (by simp; omega) (by simp) (by simp)) (Below.refl _ _) (fun _ => rfl)
    (ListInv l m (.slice (some ⟨b, o, none⟩) N c) w) (fun _ _ _ => False)
    ?own ?ownx ⟨none, 0, ⟨bX, own_nil, bS, bN, hB0⟩⟩
    (fun t => { tmps := #[.slice (some ⟨b, o, none⟩) N c, undef, .slice none 0 0, .pointer (some ⟨w.heap.size, 0, none⟩), .slice (some ⟨b, o + 64 * t.val, none⟩) (pieceL N t.val) (pieceL N t.val), .slice (some ⟨b, o, none⟩) N c, .func (.func 90) #[] #[.pointer (some ⟨w.heap.size + 1, 0, none⟩), .pointer (some ⟨w.heap.size + 1 + 1, 0, none⟩)], .slice (some ⟨b, o + 64 * t.val, none⟩) (pieceL N t.val) (pieceL N t.val), undef, undef, undef, undef, undef, undef, undef], defers := [] }) ?assign ?body ?done ?stop
  case own =>
    rintro pre X Y row ⟨A2, c2, ⟨h1, h2, h3, h4, h5⟩⟩ hg hr
    have ne : ∀ k, k ≤ w.heap.size + 1 + 1 → some k ≠ row := fun k hk e => by have := (hr _ e.symm).1; simp at this; omega
    refine ⟨A2, c2, ⟨h1.kept hg (ne _ (by omega)), own_grown h2 hg (fun g hg' e => ?_), h3.kept hg (ne _ (by omega)), h4.kept hg (ne _ (by omega)), ownFrom_below (β := Unit) (n₀ := w.heap.size) (w₀ := w) (Nat.le_refl _) (by simp; omega) () X Y row h5 hg hr⟩⟩
    obtain ⟨_, ob, ho, hoc⟩ := hr g e
    rcases h2.2 with ⟨hv, _⟩ | ⟨g', cap, cur, hv, _, hh, _⟩
    · rw [hv] at hg'; cases hg'
    · rw [hv] at hg'
      obtain rfl : g' = g := by simpa [Value.ownBlock] using hg'
      rw [hh] at ho
      injection ho with ho
      rw [← ho] at hoc
      cases hoc
  case ownx => exact fun _ _ _ _ _ hs _ _ => hs
  case assign =>
    intro l' t W K hK
    dsimp only [encsPiece]
    gi_wp2
    exact hK
  case body =>
    rintro l' pre t W ⟨A2, c2, L⟩ hlt
    have ht := t.isLt
    have hk : 64 * t.val < N := by omega
    clear hB0 bX bS bN
    gi_wp2_with fail
    refine wpIn_mono (Q := fun e a' w' => e = .normal ∧ KeepsFrom (w.heap.size + 3) W w' ∧ KpC w.heap.size (w.heap.size + 1) (w.heap.size + 1 + 1) W w' ∧ ListInv l m (.slice (some ⟨b, o, none⟩) N c) w (pre ++ [t]) w') ?_ ?_
    · have hpl : ∀ k, k < pieceL N t.val → ((l.drop (64 * t.val)).take 64).getD k 0 < 65536 := fun k hk2 => by
        have h1 := HS.out (64 * t.val + k) (by unfold pieceL at hk2; omega)
        have h2 : ((l.drop (64 * t.val)).take 64).getD k 0 = l.getD (64 * t.val + k) 0 := by
          rw [List.getD_eq_getElem?_getD, List.getD_eq_getElem?_getD, List.getElem?_take, if_pos (by unfold pieceL at hk2; omega), List.getElem?_drop]
        rw [h2]; exact h1
      have cl := fun W' hW' => listed_any (some ⟨b, o + 64 * t.val, none⟩) (pieceL N t.val) (pieceL N t.val) ((l.drop (64 * t.val)).take 64) W' hW' (by unfold pieceL; omega) hpl
      have hsz : (mkB (placesL ((l.drop (64 * t.val)).take 64))).size ≤ 128 := by
        show (placesL ((l.drop (64 * t.val)).take 64)).length ≤ 128
        rw [placesL_length, List.length_take]; omega
      have cp := fun W' => padded_any (mkB (placesL ((l.drop (64 * t.val)).take 64))) W' hsz
      have hpB : padL (mkB (placesL ((l.drop (64 * t.val)).take 64))).data.toList = pieceB l t.val := rfl
      rw [hpB] at cp
      have hpl8 : pre.length < 8 := by omega
      clear hpB hsz hpl
      have P0 := Lib.hid (LK.start L)
      have HR := Lib.hid (fun X (hX : Below w.heap.size w X) => (H.out.below hX).piece t.val hk)
      refine wpIn_region_till (fun w' => w'.cell? ⟨w.heap.size, 0, none⟩ = some (.slice A2 pre.length c2)) 6 7 hmx (by kernel_rfl) (fun ⟨_, _, h⟩ => by cases h.1) (by kernel_rfl) ?_
      have HS0 := P0.out.lw.bx.cell
      refine till_take (i := 0) _ (.slice A2 pre.length c2) [5, 0] rfl (by kernel_rfl) (by kernel_rfl) (by kernel_rfl) (by kernel_rfl) (fun _ _ _ h => h) (.inl ⟨by rfl, fun w' hS => ?_⟩) HS0 ?_
      · go_simp
      try simp only [Act.put, List.setIfInBounds_toArray]
      refine till_one (i := 1) _ (by kernel_rfl) rfl rfl (fun K hK => ?_)
      go_simp
      refine hK.out _ _ (fun _ _ => HS0) ?_
      try simp only [Act.put, List.setIfInBounds_toArray, List.set_cons_zero, List.set_cons_succ]
      clear hK K
      refine till_one (i := 2) _ (by kernel_rfl) rfl rfl (fun K hK => ?_)
      go_simp
      go_at_call 75
      refine (cl _ ((HR.out _ P0.out.lw.below).more P0.out.lw.below.size)).mono ?_
      rintro e w3 ⟨rfl, hb3⟩
      have P3 := Lib.hid (P0.out.step hb3)
      clear hb3 P0 HS0 cl
      refine hK.out _ _ (fun _ _ => P3.out.lw.bx.cell) ?_
      try simp only [Act.put, List.setIfInBounds_toArray, List.set_cons_zero, List.set_cons_succ]
      clear hK K
      refine till_one (i := 3) _ (by kernel_rfl) rfl rfl (fun K hK => ?_)
      go_simp
      go_at_call 54
      refine (cp _).mono ?_
      rintro e w4 ⟨rfl, hb4⟩
      have P4 := Lib.hid (P3.out.step hb4)
      clear hb4 P3 cp
      refine hK.out _ _ (fun _ _ => P4.out.lw.bx.cell) ?_
      try simp only [Act.put, List.setIfInBounds_toArray, List.set_cons_zero, List.set_cons_succ]
      clear hK K
      refine till_one (i := 4) _ (by kernel_rfl) rfl rfl (fun K hK => ?_)
      go_simp
      have P5 := Lib.hid (P4.out.step (alloc_below0 w4 (.cells #[.string (pieceB l t.val)] 9)))
      refine hK.out _ _ (fun _ _ => P5.out.lw.bx.cell) ?_
      try simp only [Act.put, List.setIfInBounds_toArray, List.set_cons_zero, List.set_cons_succ]
      clear hK K
      refine till_one (i := 5) _ (by kernel_rfl) rfl rfl (fun K hK => ?_)
      refine op_append_reads _ (.tmp 8) (.tmp 12) 22 rfl w.heap.size 9 i0 _ 1 16 Try.underlying22 hi0 hz0 hz1 hz2 rfl (by omega) (.slice A2 pre.length c2) pre.length (encS (pre.map fun t => pieceB l t.val)) rfl P5.out.lw.row _ (some ⟨w4.heap.size, 0, none⟩) 1 1 [.string (pieceB l t.val)] rfl (reads_new w4 #[.string (pieceB l t.val)] 9 1 1 rfl) (by simp [Value.oneCell']) (by simp only [maxLen]; omega) (by omega) P5.out.lw.below.size ?_
      intro A6 c6 w6 ho6 hg6 _
      have hc6 : w6.cell? ⟨w.heap.size, 0, none⟩ = some (.slice A2 pre.length c2) := (P5.out.lw.bx.kept hg6 (P5.out.lw.bx.not_row (by decide) P5.out.lw.row)).cell
      have hf6 : w6.frozen? ⟨w.heap.size, 0, none⟩ = false := (P5.out.lw.bx.kept hg6 (P5.out.lw.bx.not_row (by decide) P5.out.lw.row)).frozen
      refine hK.out _ _ (fun _ _ => hc6) ?_
      try simp only [Act.put, List.setIfInBounds_toArray]
      clear hK K
      have PF := Lib.hid (LK.put P5.out (t := t) ho6 hg6)
      clear ho6 hg6 P5 P4
      refine till_one (i := 6) _ (by kernel_rfl) rfl rfl (fun K hK => ?_)
      go_simp
      refine hK.out _ _ (fun h => absurd rfl h) ?_
      try simp only [Act.put, List.setIfInBounds_toArray, List.set_cons_zero, List.set_cons_succ]
      clear hK K
      refine till_done (by kernel_rfl) ?_
      exact ⟨rfl, PF.out⟩
    · rintro e a' w' ⟨rfl, h1, h2, h3⟩
      refine ⟨?_, h2, h3⟩
      simpa using h1
  case done =>
    rintro D ys W hD rfl ⟨A2, c2, L⟩ hK
    have cX := L.bx.cell
    have hlen : (upN m m).length = m := upN_length m m (Nat.le_refl _)
    have L2 := Lib.hid L
    clear hB0 bX bS bN L
    rw [hlen] at cX
    go_wp2
    refine ⟨by simp, .inl ⟨_, _, rfl, run_takeDeferred (show W.heap[D]? = some (.deferred (some [])) from hK), ?_⟩⟩
    have hrow := L2.out.row
    rw [hlen, upN_map m (pieceB l)] at hrow
    refine ⟨_, results_tmp rfl _ _ _, A2, c2, by rw [List.length_map, List.length_range]; first | rfl | (rw [hm]; rfl), ?_, L2.out.below.trans (belowK_b (w := w) (Nat.le_refl _) W D _ _ (by simp at hD; omega) hK rfl rfl)⟩
    rw [List.length_map, List.length_range]
    exact ownsRow_putObj hrow _ hK rfl
  case stop =>
    rintro D c' pre W hD _ h _
    exact h.elim

end Go.Proofs.Ytlpijikhbjkmfaa
