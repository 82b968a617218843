/-
  Blocks taken, as the program takes them.
-/
import Derived.Test.YtpdfkakhahfcjaaGreatG07
namespace Go.Proofs.YtpdfkakhahfcjaaGreat
open Go.RowKit Go.Shelf
attribute [local go_sem] Oper.semAt_some

/-- Between two rounds; behind the round that leaves. -/
def InvT (w1 : World) (u : Value) (K : Nat) (pre : List Nat) (W : World) : Prop := Boxed W (w1.heap.size + 1) 22 u ∧ ((∃ v, Boxed W w1.heap.size 49 v ∧ W.ownsRow w1.heap.size 3 1 v pre.length (encN pre) ∧ True) ∧ Below w1.heap.size w1 W) ∧ pre.length ≤ K
def OutT (w1 : World) (K : Nat) (c : Code) (pre : List Nat) (W : World) : Prop := ((∃ v, Boxed W w1.heap.size 49 v ∧ W.ownsRow w1.heap.size 3 1 v (pre.length - 1) (encN pre.dropLast) ∧ True) ∧ Below w1.heap.size w1 W) ∧ c = .exit 0 ∧ pre.length = K + 1
/-- While what was taken is marked. -/
structure Tq (w wr : World) (z D g n c1 : Nat) (v : Value) (K : Nat) (img : List ByteArray) (L : List Nat) : Prop where
  oi : OwI wr w.heap.size g n c1 img
  ol : wr.ownsRow z 3 1 v K (encN L)
  bx : Boxed wr z 49 v
  df : wr.heap[D]? = some (.deferred (some []))
  below : Below w.heap.size w wr
section
variable {w wr w' : World} {z D g n c1 K : Nat} {v : Value} {img : List ByteArray} {L : List Nat}
theorem Tq.step (h : Tq w wr z D g n c1 v K img L) (hb : Below wr.heap.size wr w') : Tq w w' z D g n c1 v K img L :=
  ⟨h.oi.step hb, own_below h.ol hb, (hb.block _ h.bx.lt).trans h.bx, (hb.block _ (Array.getElem?_eq_some_iff.1 h.df).1).trans h.df, bstep h.below hb⟩
theorem Tq.put (h : Tq w wr z D g n c1 v K img L) (hgz : g < z) (hgD : g ≠ D) (j : Nat) (s : ByteArray) : Tq w (wr.setCell ⟨g, j, none⟩ (.string s)) z D g n c1 v K (img.set j s) L :=
  ⟨h.oi.set j s, own_grown h.ol (h.oi.own.stored j (.string s)).2 (fun q e1 e2 => own_apart h.oi.own h.ol (by decide) q e2 e1), (Below.heap_setCell wr ⟨g, j, none⟩ _ z (by simp; omega)).trans h.bx, (Below.heap_setCell wr ⟨g, j, none⟩ _ D (by simp; omega)).trans h.df, h.oi.below_set j _ (Nat.le_refl _) h.below⟩
end
theorem OwI.readsB {w : World} {base g n c z : Nat} {img : List ByteArray} (h : OwI w base g n c img) (hg : g < z) : Reads w z 1 (some ⟨g, 0, none⟩) n (encS img) :=
  ⟨h.reads.1, fun hn => by
    obtain ⟨b, o, e, _, hc⟩ := h.reads.2 hn
    exact ⟨b, o, e, by injection e with e; injection e with e; omega, hc⟩⟩
theorem own_putObj {w : World} {base n size D : Nat} {e : TypeId} {v : Value} {xs : List Value} {x : Option (List Deferred)} (h : w.ownsRow base e size v n xs) (hd : w.heap[D]? = some (.deferred x)) (o : Obj) : (w.putObj D o).ownsRow base e size v n xs :=
  own_grown h (grownBy_putObj' w D o) (fun q hq e2 => by
    injection e2 with e2
    subst e2
    rcases h.2 with ⟨rfl, _⟩ | ⟨g, cap, cur, rfl, _, hg, _⟩
    · cases hq
    · have : g = D := by simpa [Value.ownBlock] using hq
      subst this
      rw [hg] at hd
      cases hd)
theorem tookA_all (img : List ByteArray) (L : List Nat) {K : Nat} (h : L.length = K) : tookA img (L.take K) = tookA img L := by rw [List.take_of_length_le (by omega)]
theorem nat_take {l : List Nat} {k : Nat} (hk : k < l.length) : l.take (k + 1) = l.take k ++ [l.getD k 0] := by
  rw [List.take_add_one, nat_get hk]; rfl

set_option maxRecDepth 100000 in
set_option maxHeartbeats 4000000 in
theorem takeA_in (A : Option Addr) (n c : Nat) (img : List ByteArray) (K : Nat) (w : World) (h : Reads w w.heap.size 1 A n (encS img)) (hf : MapP img) (hK : K ≤ 9223372036854775807) :
    Calls Tryz.prog 80 #[.slice A n c, .int .i64 K] w fun e w' => ImgL w w' (takeA img K).1 (takeA img K).2.1 (takeA img K).2.2 e := by
  obtain ⟨i0, hi0, hy0, hy1, hy2⟩ := info_parts infoI
  have hl := h.lenS
  have h8 : 8 ≤ n := by have := hf.1; omega
  have h5 : n ≤ 512 := by have := hf.1; omega
  have hd0 : decide ((K : Int) < 0) = false := by simp
  have H := Lib.hid h
  have HM := Lib.hid hf
  have HL := Lib.hid hl
  have hco := cloneS_any A n c img (w.alloc (.cells #[.int .i64 (K : Int)] 3)) (h.alloc _) (by omega)
  clear h hf hl
  refine (callsIn_wide (n := 3)).1 ?_
  refine callsIn_of_wp_marks Tryz.func80 rfl trivial ?_ rfl
  refine wpIn_wide.2 ?_
  simp only [Tryz.ntmps80, List.size_toArray, List.length_cons, List.length_nil, Nat.reduceAdd, Nat.reduceSub, Array.replicate_succ, Array.replicate_zero, List.push_toArray, List.append_toArray, List.nil_append, List.cons_append]
  go_wp2
  go_step3
  go_wp2_with fail
  refine hco.mono ?_
  rintro e w1 ⟨A1, c1, rfl, ho1, hb1⟩
  have bN : Boxed w1 w.heap.size 3 (.int .i64 (K : Int)) := (hb1.block w.heap.size (by simp)).trans (heap_alloc_new w _)
  obtain ⟨g, rfl, hO⟩ := OwI.of ho1 (by omega)
  have hzw : w.heap.size < w1.heap.size := bN.lt
  have B1 : Hid (Below w.heap.size w w1) := Lib.hid (((Below.refl _ w).alloc (Nat.le_refl _) _).trans (hb1.mono (by simp)))
  have O1 := Lib.hid (show OwI w1 w.heap.size g n c1 img from ⟨own_base hO.own (by simp), hO.pos⟩)
  have hgw : g < w1.heap.size := hO.lt
  have cN := bN.cell
  have BN := Lib.hid bN
  clear bN hO ho1 hb1 hco
  go_wp2_with fail
  go_step3
  go_wp2_with (go_at_call 61; refine ((callsIn_wide (n := 2)).1 (freeFn_in 2 _ _ _ _)).mono ?_; rintro e w' ⟨rfl, rfl⟩)
  refine (wpIn_wide (n := 3)).1 ?_
  have hB0 : Below w1.heap.size w1 ((w1.alloc (.cells #[.slice none 0 0] 49)).alloc (.cells #[.slice A n c] 22)) := ((Below.refl _ w1).alloc (Nat.le_refl _) _).alloc (by simp) _
  have bT := (Boxed.new w1 49 (.slice none 0 0)).alloc (.cells #[.slice A n c] 22)
  have bS := Boxed.new (w1.alloc (.cells #[.slice none 0 0] 49)) 22 (.slice A n c)
  simp only [World.size_alloc] at bT bS
  refine wpIn_rangeFunc_ownG rfl (by omega) (gf := 92) (lb := #[.pointer (some ⟨w1.heap.size + 1, 0, none⟩)]) rfl trivial (enters_of Tryz.func92 (by kernel_rfl) rfl)
    (free_stops 2 (by omega) (w1.heap.size + 1) w1.heap.size A n c img HM.out _ (by simp; omega) (by simp) bS.cell ((H.out.step B1.out).below hB0)) KpF.trans (kpF_put (by simp; omega) (by simp)) (Below.refl _ _) (fun _ => rfl)
    (InvT w1 (.slice A n c) K) (OutT w1 K)
    (OwnFrom.and (Own.from (boxed_own _ _ (fun _ => .slice A n c)) _) <| OwnFrom.and (OwnFrom.and (Own.from (holdsRow_own w1.heap.size w1.heap.size 49 3 1 (fun pre : List Nat => pre.length) (fun pre : List Nat => encN pre) (fun _ _ => True)) _) (ownFrom_below (Nat.le_refl _) (by simp; omega))) (ownFrom_pure _ (fun pre : List Nat => pre.length ≤ K)))
    (fun cc => OwnFrom.and (OwnFrom.and (Own.from (holdsRow_own w1.heap.size w1.heap.size 49 3 1 (fun pre : List Nat => pre.length - 1) (fun pre : List Nat => encN pre.dropLast) (fun _ _ => True)) _) (ownFrom_below (Nat.le_refl _) (by simp; omega))) (ownFrom_pure _ (fun pre : List Nat => cc = .exit 0 ∧ pre.length = K + 1)))
    ⟨bS, ⟨⟨_, bT, own_nil, trivial⟩, hB0⟩, Nat.zero_le _⟩
    (fun i => { tmps := #[.slice A n c, .int .i64 (K : Int), undef, .pointer (some ⟨w.heap.size, 0, none⟩), .slice none 0 0, .slice none 0 0, .int .i64 0, .slice (some ⟨g, 0, none⟩) n c1, .pointer (some ⟨w1.heap.size, 0, none⟩), .int .i64 (i : Int), undef, undef, .slice A n c, .slice (some ⟨g, 0, none⟩) n c1, .int .i64 (K : Int), .bool false, undef, .slice A n c, .func (.func 92) #[] #[.pointer (some ⟨w1.heap.size + 1, 0, none⟩)], .int .i64 (i : Int), undef, undef, undef, undef, undef, undef, undef, undef, undef, undef, undef, undef, undef, undef, undef, undef, undef, undef, undef, undef, undef, undef, undef, undef, undef, undef, undef, undef, undef, undef, undef, undef, undef], defers := [] }) ?assign ?body ?done ?stop
  case assign =>
    intro l i W K hK
    gi_wp2
    exact hK
  case body =>
    rintro l pre i W ⟨hS, ⟨⟨v, hv, hrow, _⟩, hB⟩, hle⟩ hlt
    have hc := hv.cell
    obtain ⟨A8, c8, rfl, _⟩ := own_slice hrow
    have cNN : W.cell? ⟨w.heap.size, 0, none⟩ = some (.int .i64 (K : Int)) := (hB.cell (p := ⟨w.heap.size, 0, none⟩) hzw).trans cN
    have hfr := freeTo_len (img := img) img.length
    have hlen5 : pre.length ≤ 512 := by unfold freeA at hlt; have := HL.out; omega
    clear hB0 bT bS hlt hfr cN
    by_cases hk : pre.length = K
    · have ht : ((pre.length : Int) == (K : Int)) = true := by rw [hk]; exact beq_self_eq_true _
      have HK := Lib.hid hk
      clear hk
      gi_wp2
      exact ⟨KeepsFrom.refl _ _, ⟨⟨_, hv, by simpa using hrow, trivial⟩, hB⟩, rfl, by simp [HK.out]⟩
    · have ht : ((pre.length : Int) == (K : Int)) = false := by rw [beq_eq_false_iff_ne]; omega
      have hkK : pre.length + 1 ≤ K := by omega
      clear hk
      gi_wp2_with (gi_at_builtin; refine wpListIn_append_own _ rfl (.tmp 24) (.tmp 26) 49 rfl w1.heap.size 3 i0 (.int .i64 0) 1 8 Tryz.underlying49 hi0 hy0 hy1 hy2 rfl (by decide) _ _ _ rfl (hrow.alloc _) ⟨W.heap.size, 0, none⟩ 1 1 [.int .i64 (i : Int)] rfl rfl (cell_one_new _ _ _) (by simp [Value.oneCell']) (by unfold maxLen; omega) (by omega) (by have := hB.size; simp; omega) ?_; intro v' w2 hown' hgrow _; obtain ⟨g', cap', rfl⟩ := ownsRow_succ hown'; obtain ⟨hv1, hv2, hr2, hk2, hb2⟩ := hv.appended (by decide) hrow hB.size (Nat.le_refl _) hown' hgrow; have hc1 := hv1.cell; have hf1 := hv1.frozen; have hS2 := (((hS.alloc _).kept hgrow (hS.not_row (by decide) hrow)).other (show w1.heap.size + 1 ≠ w1.heap.size by omega) (Value.slice (some ⟨g', 0, none⟩) (pre.length + 1) cap')))
      exact ⟨hk2.from _, ⟨hb2, hS2.trans hS.symm⟩, hS2, ⟨⟨_, hv2, by rw [encN_app, List.length_append]; exact hr2, trivial⟩, hB.trans hb2⟩, by rw [List.length_append]; exact hkK⟩
  case done =>
    rintro D ys W hD hys ⟨hS0, ⟨⟨v, hv, hrow, _⟩, hB⟩, hle⟩ hK'
    have HGZ : Hid (g < w1.heap.size ∧ g ≠ D) := Lib.hid (by simp at hD; omega)
    have HGZ2 : Hid (w1.heap.size ≤ D) := Lib.hid (by simp at hD; omega)
    have cNN : W.cell? ⟨w.heap.size, 0, none⟩ = some (.int .i64 (K : Int)) := (hB.cell (p := ⟨w.heap.size, 0, none⟩) hzw).trans cN
    clear hB0 bT bS cN hD
    obtain ⟨L, hL⟩ : ∃ L, L = freeA img := ⟨_, rfl⟩
    rw [hys, ← hL] at hrow
    have hLl : L.length ≤ K := by rw [hys, ← hL] at hle; exact hle
    clear hys hle
    by_cases hk : L.length = K
    · have HFR : Hid (L = (freeA img).take K ∧ K ≤ (freeA img).length) := Lib.hid ⟨by rw [← hL, List.take_of_length_le (by omega)], by rw [← hL]; omega⟩
      rw [hk] at hrow
      have T : Hid (Tq w W w1.heap.size D g n c1 v K (tookA img (L.take 0)) L) := Lib.hid ⟨O1.out.step hB, hrow, hv, hK', bstep B1.out hB⟩
      clear hv hrow hB hL hk hLl hK'
      have hKn : K ≤ 512 := by have := freeTo_len (img := img) img.length; have := HFR.out.2; unfold freeA at this; have := HL.out; omega
      have HE : Hid (takeA img K = (tookA img L, L, 0)) := Lib.hid (by unfold takeA; rw [if_neg (by omega), if_neg (by have := HFR.out.2; omega), Int.toNat_natCast, ← HFR.out.1])
      have HLM : Hid (∀ k ∈ L, 3 ≤ k ∧ k < n) := Lib.hid fun k hk => by
        have q1 := freeTo_mem.1 (List.mem_of_mem_take (show k ∈ (freeA img).take K by rw [← HFR.out.1]; exact hk))
        have q2 := first_le HM.out.1.1 HM.out.1.2
        have q3 := HL.out
        exact ⟨by omega, by omega⟩
      have HLEN : Hid (L.length = K) := Lib.hid (by have := T.out.ol.1; rw [encN_length] at this; omega)
      obtain ⟨A8, c8, rfl, _⟩ := own_slice T.out.ol
      have cl := T.out.bx.cell
      have hkk : ¬ (K : Int) < (K : Int) := by omega
      go_wp2
      go_loopg [35] K (fun gk s35 wr => ∃ i : Nat, i ≤ K ∧ K - i ≤ gk ∧ s35 = .int .i64 i ∧ Hid (Tq w wr w1.heap.size D g n c1 (.slice A8 K c8) K (tookA img (L.take i)) L))
      case atStart => exact ⟨0, Nat.zero_le _, by omega, rfl, T⟩
      case round =>
        clear T cl cNN
        obtain ⟨i, hi, hgk, rfl, T⟩ := hrel
        by_cases hlt : i < K
        · have hil : (i : Int) < (K : Int) := by omega
          have HLX : Hid (i < L.length) := Lib.hid (by rw [HLEN.out]; exact hlt)
          obtain ⟨b, o, e1, _, g1⟩ := (Reads.of_own T.out.ol).nat hlt
          subst e1
          have hx3 := HLM.out _ (List.mem_of_getElem? (nat_get HLX.out))
          obtain ⟨X, hX⟩ : ∃ X, X = L.getD i 0 := ⟨_, rfl⟩
          rw [← hX] at g1 hx3
          have HX := Lib.hid hX
          have HMC : Hid (MapP (tookA img (L.take i)) ∧ (tookA img (L.take i)).length = n) := Lib.hid (by
            have := took_MapP HM.out (L.take i) (fun k hk => by have := HLM.out k (List.mem_of_mem_take hk); omega)
            exact ⟨this.1, this.2.1.trans HL.out⟩)
          have HNX : Hid (take1A (tookA img (L.take i)) X = tookA img (L.take (i + 1))) := Lib.hid (by rw [nat_take HLX.out, took_snoc, hX])
          clear hX
          have h1n : 1 < n := by omega
          have hXn : X < n := hx3.2
          have cc := T.out.oi.cell 1 h1n
          have hms := HMC.out.1.2
          generalize tookA img (L.take i) = ci at T HMC HNX cc hms
          have ctu := turned_any (blk ci 1) X (by omega) (by omega) (by omega)
          have HS1 : Hid (ci.set 1 (flipA (blk ci 1) X) = turn1A ci X) := Lib.hid rfl
          generalize blk ci 1 = mp at ctu cc hms HS1
          go_wp2_with fail
          refine (ctu _).mono ?_
          rintro e w3 ⟨rfl, hb3⟩
          have T3 := Lib.hid (T.out.step hb3)
          clear T hb3 cc ctu g1
          have cc := T3.out.oi.cell 1 h1n
          have ff := T3.out.oi.free 1
          have T4 := T3.out.put HGZ.out.1 HGZ.out.2 1 (flipA mp X)
          rw [HS1.out] at T4
          have T4 := Lib.hid T4
          go_wp2_with fail
          refine (padded0_any _).mono ?_
          rintro e w5 ⟨rfl, hb5⟩
          have T5 := Lib.hid (T4.out.step hb5)
          clear T3 T4 hb5 cc ff
          have cc := T5.out.oi.cell X hXn
          have ff := T5.out.oi.free X
          have T6 := T5.out.put HGZ.out.1 HGZ.out.2 X zeroB
          rw [show (turn1A ci X).set X zeroB = take1A ci X from rfl, HNX.out] at T6
          have TN := Lib.hid T6
          clear T5 T6
          go_wp2
          go_roundg (K - (i + 1))
          case measure => omega
          case rel => exact ⟨i + 1, by omega, by omega, by go_num, TN⟩
        · have : i = K := by omega
          subst this
          have HT2 : Hid (Tq w wr w1.heap.size D g n c1 (.slice A8 i c8) i (tookA img L) L) := Lib.hid (by rw [← tookA_all img L HLEN.out]; exact T.out)
          clear T
          have cl := HT2.out.bx.cell
          go_wp2
          go_quiet (fail)
          go_wp2
          rw [Exit.noGoto_ret]
          refine ⟨by simp, .inl ⟨_, _, rfl, run_takeDeferred (show (wr.drewN nq).heap[D]? = some (.deferred (some [])) from HT2.out.df), ?_⟩⟩
          have hB2 : Below w1.heap.size (wr.drewN nq) ((wr.drewN nq).putObj D (.deferred none)) := belowF_put (z := w1.heap.size) (Nat.le_refl _) HGZ2.out (wr.drewN nq) _ _ HT2.out.df rfl
          refine ⟨_, results_tmp3 rfl _ _ _, ?_⟩
          rw [HE.out]
          refine ⟨some ⟨g, 0, none⟩, n, c1, A8, i, c8, rfl, ?_, h5, ?_, by omega, ?_⟩
          · exact (((HT2.out.oi.readsB HGZ.out.1).drewN nq).below hB2).more (Nat.le_trans (by have := HT2.out.bx.lt; simp; omega) hB2.size)
          · exact .of_own (own_putObj (w := wr.drewN nq) HT2.out.ol HT2.out.df _)
          · exact (below_drewN HT2.out.below nq).trans (hB2.mono (by omega))
    · have HE : Hid (takeA img K = (img, [], 18)) := Lib.hid (by unfold takeA; rw [if_neg (by omega), if_pos (by rw [← hL]; omega)])
      obtain ⟨A8, c8, rfl, _⟩ := own_slice hrow
      have cl := hv.cell
      have hkk : (L.length : Int) < (K : Int) := by omega
      have hR2 := Lib.hid (O1.out.readsB hgw)
      have HB := Lib.hid hB
      have HK := Lib.hid hK'
      generalize L.length = q at cl hkk hLl hk
      clear hv hrow hB hL hk hLl hK'
      go_wp2
      rw [Exit.noGoto_ret]
      refine ⟨by simp, .inl ⟨_, _, rfl, run_takeDeferred (show W.heap[D]? = some (.deferred (some [])) from HK.out), ?_⟩⟩
      have hB2 : Below w1.heap.size W (W.putObj D (.deferred none)) := belowF_put (z := w1.heap.size) (Nat.le_refl _) HGZ2.out W _ _ HK.out rfl
      have hB3 := HB.out.trans hB2
      refine ⟨_, results_tmp3 rfl _ _ _, ?_⟩
      rw [HE.out]
      exact ⟨some ⟨g, 0, none⟩, n, c1, none, 0, 0, rfl, (hR2.out.below hB3).more hB3.size, h5, Reads.nil, by omega, B1.out.trans (hB3.mono (by omega))⟩
  case stop =>
    rintro D cc pre W hD ⟨k, hk, hpre⟩ ⟨⟨⟨v, hv, hrow, _⟩, hB⟩, rfl, hlen⟩ hK'
    have HGZ : Hid (g < w1.heap.size ∧ g ≠ D) := Lib.hid (by simp at hD; omega)
    have HGZ2 : Hid (w1.heap.size ≤ D) := Lib.hid (by simp at hD; omega)
    have cNN : W.cell? ⟨w.heap.size, 0, none⟩ = some (.int .i64 (K : Int)) := (hB.cell (p := ⟨w.heap.size, 0, none⟩) hzw).trans cN
    clear hB0 bT bS cN hD
    have hpx : pre <+: freeA img := by rw [hpre]; exact freeTo_pre (by rw [HL.out]; exact hk)
    have hdl : pre.dropLast = (freeA img).take K := by
      rw [List.dropLast_eq_take, hlen, Nat.add_sub_cancel]
      have := List.prefix_iff_eq_take.1 hpx
      rw [this, List.take_take, hlen, Nat.min_eq_left (by omega)]
    have hKl : K ≤ (freeA img).length := by have := hpx.length_le; omega
    obtain ⟨L, hL⟩ : ∃ L, L = pre.dropLast := ⟨_, rfl⟩
    rw [← hL] at hrow hdl
    rw [hlen, Nat.add_sub_cancel] at hrow
    have HFR : Hid (L = (freeA img).take K ∧ K ≤ (freeA img).length) := Lib.hid ⟨hdl, hKl⟩
    have T : Hid (Tq w W w1.heap.size D g n c1 v K (tookA img (L.take 0)) L) := Lib.hid ⟨O1.out.step hB, hrow, hv, hK', bstep B1.out hB⟩
    clear hv hrow hB hL hk hlen hpre hpx hdl hKl hK'
    refine wpIn_wide.2 (wp_exit ?_)
    have hKn : K ≤ 512 := by have := freeTo_len (img := img) img.length; have := HFR.out.2; unfold freeA at this; have := HL.out; omega
    have HE : Hid (takeA img K = (tookA img L, L, 0)) := Lib.hid (by unfold takeA; rw [if_neg (by omega), if_neg (by have := HFR.out.2; omega), Int.toNat_natCast, ← HFR.out.1])
    have HLM : Hid (∀ k ∈ L, 3 ≤ k ∧ k < n) := Lib.hid fun k hk => by
      have q1 := freeTo_mem.1 (List.mem_of_mem_take (show k ∈ (freeA img).take K by rw [← HFR.out.1]; exact hk))
      have q2 := first_le HM.out.1.1 HM.out.1.2
      have q3 := HL.out
      exact ⟨by omega, by omega⟩
    have HLEN : Hid (L.length = K) := Lib.hid (by have := T.out.ol.1; rw [encN_length] at this; omega)
    obtain ⟨A8, c8, rfl, _⟩ := own_slice T.out.ol
    have cl := T.out.bx.cell
    have hkk : ¬ (K : Int) < (K : Int) := by omega
    go_wp2
    go_loopg [35] K (fun gk s35 wr => ∃ i : Nat, i ≤ K ∧ K - i ≤ gk ∧ s35 = .int .i64 i ∧ Hid (Tq w wr w1.heap.size D g n c1 (.slice A8 K c8) K (tookA img (L.take i)) L))
    case atStart => exact ⟨0, Nat.zero_le _, by omega, rfl, T⟩
    case round =>
      clear T cl cNN
      obtain ⟨i, hi, hgk, rfl, T⟩ := hrel
      by_cases hlt : i < K
      · have hil : (i : Int) < (K : Int) := by omega
        have HLX : Hid (i < L.length) := Lib.hid (by rw [HLEN.out]; exact hlt)
        obtain ⟨b, o, e1, _, g1⟩ := (Reads.of_own T.out.ol).nat hlt
        subst e1
        have hx3 := HLM.out _ (List.mem_of_getElem? (nat_get HLX.out))
        obtain ⟨X, hX⟩ : ∃ X, X = L.getD i 0 := ⟨_, rfl⟩
        rw [← hX] at g1 hx3
        have HX := Lib.hid hX
        have HMC : Hid (MapP (tookA img (L.take i)) ∧ (tookA img (L.take i)).length = n) := Lib.hid (by
          have := took_MapP HM.out (L.take i) (fun k hk => by have := HLM.out k (List.mem_of_mem_take hk); omega)
          exact ⟨this.1, this.2.1.trans HL.out⟩)
        have HNX : Hid (take1A (tookA img (L.take i)) X = tookA img (L.take (i + 1))) := Lib.hid (by rw [nat_take HLX.out, took_snoc, hX])
        clear hX
        have h1n : 1 < n := by omega
        have hXn : X < n := hx3.2
        have cc := T.out.oi.cell 1 h1n
        have hms := HMC.out.1.2
        generalize tookA img (L.take i) = ci at T HMC HNX cc hms
        have ctu := turned_any (blk ci 1) X (by omega) (by omega) (by omega)
        have HS1 : Hid (ci.set 1 (flipA (blk ci 1) X) = turn1A ci X) := Lib.hid rfl
        generalize blk ci 1 = mp at ctu cc hms HS1
        go_wp2_with fail
        refine (ctu _).mono ?_
        rintro e w3 ⟨rfl, hb3⟩
        have T3 := Lib.hid (T.out.step hb3)
        clear T hb3 cc ctu g1
        have cc := T3.out.oi.cell 1 h1n
        have ff := T3.out.oi.free 1
        have T4 := T3.out.put HGZ.out.1 HGZ.out.2 1 (flipA mp X)
        rw [HS1.out] at T4
        have T4 := Lib.hid T4
        go_wp2_with fail
        refine (padded0_any _).mono ?_
        rintro e w5 ⟨rfl, hb5⟩
        have T5 := Lib.hid (T4.out.step hb5)
        clear T3 T4 hb5 cc ff
        have cc := T5.out.oi.cell X hXn
        have ff := T5.out.oi.free X
        have T6 := T5.out.put HGZ.out.1 HGZ.out.2 X zeroB
        rw [show (turn1A ci X).set X zeroB = take1A ci X from rfl, HNX.out] at T6
        have TN := Lib.hid T6
        clear T5 T6
        go_wp2
        go_roundg (K - (i + 1))
        case measure => omega
        case rel => exact ⟨i + 1, by omega, by omega, by go_num, TN⟩
      · have : i = K := by omega
        subst this
        have HT2 : Hid (Tq w wr w1.heap.size D g n c1 (.slice A8 i c8) i (tookA img L) L) := Lib.hid (by rw [← tookA_all img L HLEN.out]; exact T.out)
        clear T
        have cl := HT2.out.bx.cell
        go_wp2
        go_quiet (fail)
        go_wp2
        rw [Exit.noGoto_ret]
        refine ⟨by simp, .inl ⟨_, _, rfl, run_takeDeferred (show (wr.drewN nq).heap[D]? = some (.deferred (some [])) from HT2.out.df), ?_⟩⟩
        have hB2 : Below w1.heap.size (wr.drewN nq) ((wr.drewN nq).putObj D (.deferred none)) := belowF_put (z := w1.heap.size) (Nat.le_refl _) HGZ2.out (wr.drewN nq) _ _ HT2.out.df rfl
        refine ⟨_, results_tmp3 rfl _ _ _, ?_⟩
        rw [HE.out]
        refine ⟨some ⟨g, 0, none⟩, n, c1, A8, i, c8, rfl, ?_, h5, ?_, by omega, ?_⟩
        · exact (((HT2.out.oi.readsB HGZ.out.1).drewN nq).below hB2).more (Nat.le_trans (by have := HT2.out.bx.lt; simp; omega) hB2.size)
        · exact .of_own (own_putObj (w := wr.drewN nq) HT2.out.ol HT2.out.df _)
        · exact (below_drewN HT2.out.below nq).trans (hB2.mono (by omega))

end Go.Proofs.YtpdfkakhahfcjaaGreat

/-
  Bytes laid over a block of an image that is the call's own.
-/
namespace Go.Proofs.YtpdfkakhahfcjaaGreat
open Go.RowKit

/-- All that there was is as it was, but the block g. -/
structure But (g : Nat) (w w' : World) : Prop where
  os : w'.os = w.os
  tape : w'.tape = w.tape
  output : w'.output = w.output
  size : w.heap.size ≤ w'.heap.size
  block : ∀ k, k < w.heap.size → k ≠ g → w'.heap[k]? = w.heap[k]?
section
variable {w w1 w' : World} {g : Nat}
theorem But.refl (g : Nat) (w : World) : But g w w := ⟨rfl, rfl, rfl, Nat.le_refl _, fun _ _ _ => rfl⟩
theorem But.of_below (h : Below w.heap.size w w') (g : Nat) : But g w w' := ⟨h.os, h.tape, h.output, h.size, fun k hk _ => h.block k hk⟩
theorem But.trans (h : But g w w1) (h2 : But g w1 w') : But g w w' := ⟨h2.os.trans h.os, h2.tape.trans h.tape, h2.output.trans h.output, Nat.le_trans h.size h2.size, fun k hk hne => (h2.block k (Nat.lt_of_lt_of_le hk h.size) hne).trans (h.block k hk hne)⟩
theorem But.set (w : World) (g o : Nat) (u : Value) : But g w (w.setCell ⟨g, o, none⟩ u) := ⟨rfl, rfl, rfl, by simp [World.setCell], fun k _ hne => Below.heap_setCell w ⟨g, o, none⟩ u k hne⟩
theorem But.to_below (h : But g w w') {B : Nat} (hB : B ≤ g) (hw : B ≤ w.heap.size) : Below B w w' := ⟨h.os, h.tape, h.output, h.size, fun k hk => h.block k (by omega) (by omega)⟩
theorem BR.but {k : Nat} {r : RecI} (h : BR w k r) (hb : But g w w') (hne : k ≠ g) : BR w' k r := (hb.block k h.lt hne).trans h
theorem Byt.but {k : Nat} {l : List UInt8} (h : Byt w k l) (hb : But g w w') (hne : k ≠ g) : Byt w' k l := by
  have hl := h.lt
  obtain ⟨cur, e, lo, hi, h, r⟩ := h.blk
  exact ⟨cur, e, lo, hi, (hb.block k hl hne).trans h, r⟩
theorem but_setCells (g : Nat) : ∀ (vs : List Value) (o : Nat) (w : World), But g w (w.setCells g o vs)
  | [], _, _w => But.refl _ _
  | v :: vs, o, w => (But.set w g o v).trans (but_setCells g vs (o + 1) _)
theorem below_setCells {B : Nat} (hg : B ≤ g) (vs : List Value) (o : Nat) (w : World) (hB : B ≤ w.heap.size) : Below B w (w.setCells g o vs) := (but_setCells g vs o w).to_below hg hB
end
theorem Byt.setCells {g : Nat} : ∀ (s : List UInt8) (o : Nat) {l : List UInt8} {w : World}, Byt w g l → o + s.length ≤ l.length → Byt (w.setCells g o (s.map fun x => Value.int .u8 (x.toNat : Int))) g (l.take o ++ s ++ l.drop (o + s.length))
  | [], o, l, w, h, _ => by
    simpa [World.setCells] using h
  | x :: s, o, l, w, h, hle => by
    have h2 := h.set o x
    have ih := Byt.setCells s (o + 1) h2 (by rw [List.length_set]; simp at hle; omega)
    rw [List.map_cons, World.setCells]
    have e : (l.set o x).take (o + 1) ++ s ++ (l.set o x).drop (o + 1 + s.length) = l.take o ++ x :: s ++ l.drop (o + (x :: s).length) := by
      have ho : o < l.length := by simp at hle; omega
      rw [List.take_add_one, List.take_set_of_le (Nat.le_refl _), List.drop_set_of_lt (by omega), List.getElem?_set_self ho, List.length_cons, show o + 1 + s.length = o + (s.length + 1) by omega]
      simp
    rw [e] at ih
    exact ih
theorem blk_data (s : ByteArray) : s.data.toList.length = s.size := by simp

set_option maxRecDepth 100000 in
set_option maxHeartbeats 2000000 in
theorem putI_any (base g n c : Nat) (img : List ByteArray) (i o : Nat) (s : ByteArray) (w : World) (h : OwI w base g n c img) (ho : o + s.size ≤ 128) (ho2 : o < 128) :
    Calls Tryz.prog 45 #[.slice (some ⟨g, 0, none⟩) n c, .int .i64 i, .int .i64 o, .string s] w fun e w' => e = .returned (.tuple #[]) ∧ OwI w' base g n c (putI img i o s) ∧ But g w w' := by
  have hl := h.len
  have ci := fun W => isBlock_any (some ⟨g, 0, none⟩) n c (i : Int) W
  have cb := blockI_any (some ⟨g, 0, none⟩) n c img i w h.reads
  by_cases hi : i < n
  · rw [decide_eq_true (by omega : (0 : Int) ≤ (i : Int) ∧ (i : Int) < n)] at ci
    have hr : putI img i o s = img.set i (overB (blkI img i) o s) := if_pos (by omega)
    have hsz := blkI_size img i
    have HR := Lib.hid hr
    have H := Lib.hid h
    have HL := Lib.hid hl
    have hii : (i : Int) < (n : Int) := by omega
    have HO : Hid (overB (blkI img i) o s = mkB ((blkI img i).data.toList.take o ++ s.data.toList ++ (blkI img i).data.toList.drop (o + s.data.toList.length))) := Lib.hid (by rw [overB, blk_data])
    clear h hr hl
    generalize blkI img i = b at cb hsz HR HO
    go_enter Tryz.func45, Tryz.ntmps45
    go_wp2_with (go_at_call 79; refine (ci _).mono ?_; rintro e w1 ⟨rfl, rfl⟩)
    refine cb.mono ?_
    rintro e w1 ⟨rfl, hb1⟩
    have H1 := Lib.hid (H.out.step hb1)
    have hcv := run_bytes_of_string (P := Tryz.prog) w1 9 53 5 b Tryz.underlying9 Tryz.underlying53 Tryz.underlying5
    have hb0 := Byt.of_text w1 5 b (grownCap w1 b.size 0 5)
    have hl0 := Byt.of_text_below w1 5 b (grownCap w1 b.size 0 5)
    have hcap := grownCap_ge w1 b.size 0 5
    have hmx := grownCap_le_maxLen w1 b.size 0 5 (by rw [hsz]; unfold maxLen; omega)
    unfold maxLen at hmx
    rw [hsz] at hcap hcv hb0 hl0 hmx
    generalize hQ : grownCap w1 128 0 5 = cap at hcap hcv hb0 hl0 hmx
    clear hQ
    generalize w1.drew.alloc (.cells (bytesRow b cap) 5 ((bytesRow b cap).size, (bytesRow b cap).size + 1)) = w2 at hcv hb0 hl0
    have H2 := Lib.hid (H1.out.step hl0)
    have hlt := hb0.lt
    have hlen : b.data.toList.length = 128 := by rw [blk_data, hsz]
    have hne : w1.heap.size ≠ g := by have := H1.out.lt; omega
    have hcp := run_copy_text (P := Tryz.prog) w2 53 9 3 5 w1.heap.size o (128 - o) (cap - o) s Tryz.underlying53 Tryz.sizeOf5 s.size (by show min s.size (128 - o) = s.size; omega) (fun j hj => by rw [hb0.cell (o + j) (by omega)]; rfl) (fun j hj => hb0.free (o + j) (by omega))
    rw [List.take_of_length_le (by rw [blk_data]; exact Nat.le_refl _)] at hcp
    have hb3 := Byt.setCells s.data.toList o hb0 (by rw [hlen, blk_data]; exact ho)
    have hl3 := hl0.trans (below_setCells (Nat.le_refl _) (s.data.toList.map fun x => Value.int .u8 (x.toNat : Int)) o w2 (by omega))
    have H3 := Lib.hid (H1.out.step hl3)
    generalize w2.setCells w1.heap.size o (s.data.toList.map fun x => Value.int .u8 (x.toNat : Int)) = w3 at hcp hb3 hl3 H3
    have hcv2 := hb3.conv (P := Tryz.prog) Tryz.underlying53 Tryz.underlying5 Tryz.underlying9 cap 128 (by rw [List.length_append, List.length_append, List.length_take, List.length_drop, hlen, blk_data]; omega)
    rw [← HO.out] at hcv2
    have HS : Hid (OwI (w3.setCell ⟨g, i, none⟩ (.string (overB b o s))) base g n c (putI img i o s) ∧ But g w (w3.setCell ⟨g, i, none⟩ (.string (overB b o s)))) := Lib.hid ⟨by rw [HR.out]; exact H3.out.set i _, ((But.of_below hb1 g).trans (But.of_below hl3 g)).trans (But.set w3 g i _)⟩
    have hce := H3.out.cell i hi
    have hfr := H3.out.free i
    have ho3 : (o : Int) ≤ 128 := by omega
    have hoc : (o : Int) ≤ (cap : Int) := by omega
    have hno : ¬ cap = o := by omega
    have hno2 : ¬ 128 = o := by omega
    clear hb0 hl0 hb3 hl3 hlen hb1 hlt hmx
    go_wp2
    go_end0
    exact ⟨rfl, HS.out⟩
  · rw [decide_eq_false (by omega : ¬ ((0 : Int) ≤ (i : Int) ∧ (i : Int) < n))] at ci
    have hr : putI img i o s = img := if_neg (by omega)
    rw [hr]
    have H := Lib.hid h
    clear h hr hl cb
    go_enter Tryz.func45, Tryz.ntmps45
    go_wp2_with (go_at_call 79; refine (ci _).mono ?_; rintro e w1 ⟨rfl, rfl⟩)
    first | go_end0 | exact bodyPost_ret (v := .tuple #[]) (by simp [results, Tryz.results45, go_sem]) rfl ⟨rfl, H.out, But.refl _ _⟩

end Go.Proofs.YtpdfkakhahfcjaaGreat
