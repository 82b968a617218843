/-
  Blocks taken, as the program does: the image is the call's own.
-/
import Derived.Test.YtpdfkakhahfcjaaGreatG15
namespace Go.Proofs.YtpdfkakhahfcjaaGreat
open Go.RowKit Go.Shelf
attribute [local go_sem] Oper.semAt_some

/-- An image of the call's own, the blocks, and an error. -/
def ImgLO (w w' : World) (img : List ByteArray) (l : List Nat) (code : Int) (e : Ending) : Prop := ∃ g n c A2 k c2, e = .returned (.tuple #[.slice (some ⟨g, 0, none⟩) n c, .slice A2 k c2, .int .i64 code]) ∧ OwI w' w.heap.size g n c img ∧ n ≤ 512 ∧ Reads w' w'.heap.size 1 A2 k (encN l) ∧ k ≤ 512 ∧ k ≤ c2 ∧ Below w.heap.size w w'

set_option maxRecDepth 100000 in
set_option maxHeartbeats 4000000 in
theorem takeO_in (A : Option Addr) (n c : Nat) (img : List ByteArray) (K : Nat) (w : World) (h : Reads w w.heap.size 1 A n (encS img)) (hf : MapP img) (hK : K ≤ 9223372036854775807) :
    Calls Tryz.prog 80 #[.slice A n c, .int .i64 K] w fun e w' => ImgLO w w' (takeA img K).1 (takeA img K).2.1 (takeA img K).2.2 e := by
  obtain ⟨i0, hi0, hy0, hy1, hy2⟩ := info_parts infoI
  have hl := h.lenS
  have h8 : 8 ≤ n := by have := hf.1; omega
  have h5 : n ≤ 512 := by have := hf.1; omega
  have hd0 : decide ((K : Int) < 0) = false := by simp
  have H := Lib.hid h
  have HM := Lib.hid hf
  have HL := Lib.hid hl
  have hco := cloneS_any A n c img (w.alloc (.cells #[.int .i64 (K : Int)] 3)) (h.alloc _) (by omega)
  clear h hf hl
  refine (callsIn_wide (n := 3)).1 ?_
  refine callsIn_of_wp_marks Tryz.func80 rfl trivial ?_ rfl
  refine wpIn_wide.2 ?_
  simp only [Tryz.ntmps80, List.size_toArray, List.length_cons, List.length_nil, Nat.reduceAdd, Nat.reduceSub, Array.replicate_succ, Array.replicate_zero, List.push_toArray, List.append_toArray, List.nil_append, List.cons_append]
  go_wp2
  go_step3
  go_wp2_with fail
  refine hco.mono ?_
  rintro e w1 ⟨A1, c1, rfl, ho1, hb1⟩
  have bN : Boxed w1 w.heap.size 3 (.int .i64 (K : Int)) := (hb1.block w.heap.size (by simp)).trans (heap_alloc_new w _)
  obtain ⟨g, rfl, hO⟩ := OwI.of ho1 (by omega)
  have hzw : w.heap.size < w1.heap.size := bN.lt
  have B1 : Hid (Below w.heap.size w w1) := Lib.hid (((Below.refl _ w).alloc (Nat.le_refl _) _).trans (hb1.mono (by simp)))
  have O1 := Lib.hid (show OwI w1 w.heap.size g n c1 img from ⟨own_base hO.own (by simp), hO.pos⟩)
  have hgw : g < w1.heap.size := hO.lt
  have cN := bN.cell
  have BN := Lib.hid bN
  clear bN hO ho1 hb1 hco
  go_wp2_with fail
  go_step3
  go_wp2_with (go_at_call 61; refine ((callsIn_wide (n := 2)).1 (freeFn_in 2 _ _ _ _)).mono ?_; rintro e w' ⟨rfl, rfl⟩)
  refine (wpIn_wide (n := 3)).1 ?_
  have hB0 : Below w1.heap.size w1 ((w1.alloc (.cells #[.slice none 0 0] 49)).alloc (.cells #[.slice A n c] 22)) := ((Below.refl _ w1).alloc (Nat.le_refl _) _).alloc (by simp) _
  have bT := (Boxed.new w1 49 (.slice none 0 0)).alloc (.cells #[.slice A n c] 22)
  have bS := Boxed.new (w1.alloc (.cells #[.slice none 0 0] 49)) 22 (.slice A n c)
  simp only [World.size_alloc] at bT bS
  refine wpIn_rangeFunc_ownG rfl (by omega) (gf := 92) (lb := #[.pointer (some ⟨w1.heap.size + 1, 0, none⟩)]) rfl trivial (enters_of Tryz.func92 (by kernel_rfl) rfl)
    (free_stops 2 (by omega) (w1.heap.size + 1) w1.heap.size A n c img HM.out _ (by simp; omega) (by simp) bS.cell ((H.out.step B1.out).below hB0)) KpF.trans (kpF_put (by simp; omega) (by simp)) (Below.refl _ _) (fun _ => rfl)
    (InvT w1 (.slice A n c) K) (OutT w1 K)
    (OwnFrom.and (Own.from (boxed_own _ _ (fun _ => .slice A n c)) _) <| OwnFrom.and (OwnFrom.and (Own.from (holdsRow_own w1.heap.size w1.heap.size 49 3 1 (fun pre : List Nat => pre.length) (fun pre : List Nat => encN pre) (fun _ _ => True)) _) (ownFrom_below (Nat.le_refl _) (by simp; omega))) (ownFrom_pure _ (fun pre : List Nat => pre.length ≤ K)))
    (fun cc => OwnFrom.and (OwnFrom.and (Own.from (holdsRow_own w1.heap.size w1.heap.size 49 3 1 (fun pre : List Nat => pre.length - 1) (fun pre : List Nat => encN pre.dropLast) (fun _ _ => True)) _) (ownFrom_below (Nat.le_refl _) (by simp; omega))) (ownFrom_pure _ (fun pre : List Nat => cc = .exit 0 ∧ pre.length = K + 1)))
    ⟨bS, ⟨⟨_, bT, own_nil, trivial⟩, hB0⟩, Nat.zero_le _⟩
    (fun i => { tmps := #[.slice A n c, .int .i64 (K : Int), undef, .pointer (some ⟨w.heap.size, 0, none⟩), .slice none 0 0, .slice none 0 0, .int .i64 0, .slice (some ⟨g, 0, none⟩) n c1, .pointer (some ⟨w1.heap.size, 0, none⟩), .int .i64 (i : Int), undef, undef, .slice A n c, .slice (some ⟨g, 0, none⟩) n c1, .int .i64 (K : Int), .bool false, undef, .slice A n c, .func (.func 92) #[] #[.pointer (some ⟨w1.heap.size + 1, 0, none⟩)], .int .i64 (i : Int), undef, undef, undef, undef, undef, undef, undef, undef, undef, undef, undef, undef, undef, undef, undef, undef, undef, undef, undef, undef, undef, undef, undef, undef, undef, undef, undef, undef, undef, undef, undef, undef, undef], defers := [] }) ?assign ?body ?done ?stop
  case assign =>
    intro l i W K hK
    gi_wp2
    exact hK
  case body =>
    rintro l pre i W ⟨hS, ⟨⟨v, hv, hrow, _⟩, hB⟩, hle⟩ hlt
    have hc := hv.cell
    obtain ⟨A8, c8, rfl, _⟩ := own_slice hrow
    have cNN : W.cell? ⟨w.heap.size, 0, none⟩ = some (.int .i64 (K : Int)) := (hB.cell (p := ⟨w.heap.size, 0, none⟩) hzw).trans cN
    have hfr := freeTo_len (img := img) img.length
    have hlen5 : pre.length ≤ 512 := by unfold freeA at hlt; have := HL.out; omega
    clear hB0 bT bS hlt hfr cN
    by_cases hk : pre.length = K
    · have ht : ((pre.length : Int) == (K : Int)) = true := by rw [hk]; exact beq_self_eq_true _
      have HK := Lib.hid hk
      clear hk
      gi_wp2
      exact ⟨KeepsFrom.refl _ _, ⟨⟨_, hv, by simpa using hrow, trivial⟩, hB⟩, rfl, by simp [HK.out]⟩
    · have ht : ((pre.length : Int) == (K : Int)) = false := by rw [beq_eq_false_iff_ne]; omega
      have hkK : pre.length + 1 ≤ K := by omega
      clear hk
      gi_wp2_with (gi_at_builtin; refine wpListIn_append_own _ rfl (.tmp 24) (.tmp 26) 49 rfl w1.heap.size 3 i0 (.int .i64 0) 1 8 Tryz.underlying49 hi0 hy0 hy1 hy2 rfl (by decide) _ _ _ rfl (hrow.alloc _) ⟨W.heap.size, 0, none⟩ 1 1 [.int .i64 (i : Int)] rfl rfl (cell_one_new _ _ _) (by simp [Value.oneCell']) (by unfold maxLen; omega) (by omega) (by have := hB.size; simp; omega) ?_; intro v' w2 hown' hgrow _; obtain ⟨g', cap', rfl⟩ := ownsRow_succ hown'; obtain ⟨hv1, hv2, hr2, hk2, hb2⟩ := hv.appended (by decide) hrow hB.size (Nat.le_refl _) hown' hgrow; have hc1 := hv1.cell; have hf1 := hv1.frozen; have hS2 := (((hS.alloc _).kept hgrow (hS.not_row (by decide) hrow)).other (show w1.heap.size + 1 ≠ w1.heap.size by omega) (Value.slice (some ⟨g', 0, none⟩) (pre.length + 1) cap')))
      exact ⟨hk2.from _, ⟨hb2, hS2.trans hS.symm⟩, hS2, ⟨⟨_, hv2, by rw [encN_app, List.length_append]; exact hr2, trivial⟩, hB.trans hb2⟩, by rw [List.length_append]; exact hkK⟩
  case done =>
    rintro D ys W hD hys ⟨hS0, ⟨⟨v, hv, hrow, _⟩, hB⟩, hle⟩ hK'
    have HGZ : Hid (g < w1.heap.size ∧ g ≠ D) := Lib.hid (by simp at hD; omega)
    have HGZ2 : Hid (w1.heap.size ≤ D) := Lib.hid (by simp at hD; omega)
    have cNN : W.cell? ⟨w.heap.size, 0, none⟩ = some (.int .i64 (K : Int)) := (hB.cell (p := ⟨w.heap.size, 0, none⟩) hzw).trans cN
    clear hB0 bT bS cN hD
    obtain ⟨L, hL⟩ : ∃ L, L = freeA img := ⟨_, rfl⟩
    rw [hys, ← hL] at hrow
    have hLl : L.length ≤ K := by rw [hys, ← hL] at hle; exact hle
    clear hys hle
    by_cases hk : L.length = K
    · have HFR : Hid (L = (freeA img).take K ∧ K ≤ (freeA img).length) := Lib.hid ⟨by rw [← hL, List.take_of_length_le (by omega)], by rw [← hL]; omega⟩
      rw [hk] at hrow
      have T : Hid (Tq w W w1.heap.size D g n c1 v K (tookA img (L.take 0)) L) := Lib.hid ⟨O1.out.step hB, hrow, hv, hK', bstep B1.out hB⟩
      clear hv hrow hB hL hk hLl hK'
      have hKn : K ≤ 512 := by have := freeTo_len (img := img) img.length; have := HFR.out.2; unfold freeA at this; have := HL.out; omega
      have HE : Hid (takeA img K = (tookA img L, L, 0)) := Lib.hid (by unfold takeA; rw [if_neg (by omega), if_neg (by have := HFR.out.2; omega), Int.toNat_natCast, ← HFR.out.1])
      have HLM : Hid (∀ k ∈ L, 3 ≤ k ∧ k < n) := Lib.hid fun k hk => by
        have q1 := freeTo_mem.1 (List.mem_of_mem_take (show k ∈ (freeA img).take K by rw [← HFR.out.1]; exact hk))
        have q2 := first_le HM.out.1.1 HM.out.1.2
        have q3 := HL.out
        exact ⟨by omega, by omega⟩
      have HLEN : Hid (L.length = K) := Lib.hid (by have := T.out.ol.1; rw [encN_length] at this; omega)
      obtain ⟨A8, c8, rfl, hc8, _⟩ := own_slice T.out.ol
      have HC8 := Lib.hid hc8
      clear hc8
      have cl := T.out.bx.cell
      have hkk : ¬ (K : Int) < (K : Int) := by omega
      go_wp2
      go_loopg [35] K (fun gk s35 wr => ∃ i : Nat, i ≤ K ∧ K - i ≤ gk ∧ s35 = .int .i64 i ∧ Hid (Tq w wr w1.heap.size D g n c1 (.slice A8 K c8) K (tookA img (L.take i)) L))
      case atStart => exact ⟨0, Nat.zero_le _, by omega, rfl, T⟩
      case round =>
        clear T cl cNN
        obtain ⟨i, hi, hgk, rfl, T⟩ := hrel
        by_cases hlt : i < K
        · have hil : (i : Int) < (K : Int) := by omega
          have HLX : Hid (i < L.length) := Lib.hid (by rw [HLEN.out]; exact hlt)
          obtain ⟨b, o, e1, _, g1⟩ := (Reads.of_own T.out.ol).nat hlt
          subst e1
          have hx3 := HLM.out _ (List.mem_of_getElem? (nat_get HLX.out))
          obtain ⟨X, hX⟩ : ∃ X, X = L.getD i 0 := ⟨_, rfl⟩
          rw [← hX] at g1 hx3
          have HX := Lib.hid hX
          have HMC : Hid (MapP (tookA img (L.take i)) ∧ (tookA img (L.take i)).length = n) := Lib.hid (by
            have := took_MapP HM.out (L.take i) (fun k hk => by have := HLM.out k (List.mem_of_mem_take hk); omega)
            exact ⟨this.1, this.2.1.trans HL.out⟩)
          have HNX : Hid (take1A (tookA img (L.take i)) X = tookA img (L.take (i + 1))) := Lib.hid (by rw [nat_take HLX.out, took_snoc, hX])
          clear hX
          have h1n : 1 < n := by omega
          have hXn : X < n := hx3.2
          have cc := T.out.oi.cell 1 h1n
          have hms := HMC.out.1.2
          generalize tookA img (L.take i) = ci at T HMC HNX cc hms
          have ctu := turned_any (blk ci 1) X (by omega) (by omega) (by omega)
          have HS1 : Hid (ci.set 1 (flipA (blk ci 1) X) = turn1A ci X) := Lib.hid rfl
          generalize blk ci 1 = mp at ctu cc hms HS1
          go_wp2_with fail
          refine (ctu _).mono ?_
          rintro e w3 ⟨rfl, hb3⟩
          have T3 := Lib.hid (T.out.step hb3)
          clear T hb3 cc ctu g1
          have cc := T3.out.oi.cell 1 h1n
          have ff := T3.out.oi.free 1
          have T4 := T3.out.put HGZ.out.1 HGZ.out.2 1 (flipA mp X)
          rw [HS1.out] at T4
          have T4 := Lib.hid T4
          go_wp2_with fail
          refine (padded0_any _).mono ?_
          rintro e w5 ⟨rfl, hb5⟩
          have T5 := Lib.hid (T4.out.step hb5)
          clear T3 T4 hb5 cc ff
          have cc := T5.out.oi.cell X hXn
          have ff := T5.out.oi.free X
          have T6 := T5.out.put HGZ.out.1 HGZ.out.2 X zeroB
          rw [show (turn1A ci X).set X zeroB = take1A ci X from rfl, HNX.out] at T6
          have TN := Lib.hid T6
          clear T5 T6
          go_wp2
          go_roundg (K - (i + 1))
          case measure => omega
          case rel => exact ⟨i + 1, by omega, by omega, by go_num, TN⟩
        · have : i = K := by omega
          subst this
          have HT2 : Hid (Tq w wr w1.heap.size D g n c1 (.slice A8 i c8) i (tookA img L) L) := Lib.hid (by rw [← tookA_all img L HLEN.out]; exact T.out)
          clear T
          have cl := HT2.out.bx.cell
          go_wp2
          go_quiet (fail)
          go_wp2
          rw [Exit.noGoto_ret]
          refine ⟨by simp, .inl ⟨_, _, rfl, run_takeDeferred (show (wr.drewN nq).heap[D]? = some (.deferred (some [])) from HT2.out.df), ?_⟩⟩
          have hB2 : Below w1.heap.size (wr.drewN nq) ((wr.drewN nq).putObj D (.deferred none)) := belowF_put (z := w1.heap.size) (Nat.le_refl _) HGZ2.out (wr.drewN nq) _ _ HT2.out.df rfl
          refine ⟨_, results_tmp3 rfl _ _ _, ?_⟩
          rw [HE.out]
          refine ⟨g, n, c1, A8, i, c8, rfl, ?_, h5, ?_, by omega, HC8.out, ?_⟩
          · exact ⟨own_putObj (w := wr.drewN nq) HT2.out.oi.own HT2.out.df _, HT2.out.oi.pos⟩
          · exact .of_own (own_putObj (w := wr.drewN nq) HT2.out.ol HT2.out.df _)
          · exact (below_drewN HT2.out.below nq).trans (hB2.mono (by omega))
    · have HE : Hid (takeA img K = (img, [], 18)) := Lib.hid (by unfold takeA; rw [if_neg (by omega), if_pos (by rw [← hL]; omega)])
      obtain ⟨A8, c8, rfl, _⟩ := own_slice hrow
      have cl := hv.cell
      have hkk : (L.length : Int) < (K : Int) := by omega
      have hR2 := Lib.hid (O1.out.readsB hgw)
      have HB := Lib.hid hB
      have HOW := Lib.hid (O1.out.step hB)
      have HK := Lib.hid hK'
      generalize L.length = q at cl hkk hLl hk
      clear hv hrow hB hL hk hLl hK'
      go_wp2
      rw [Exit.noGoto_ret]
      refine ⟨by simp, .inl ⟨_, _, rfl, run_takeDeferred (show W.heap[D]? = some (.deferred (some [])) from HK.out), ?_⟩⟩
      have hB2 : Below w1.heap.size W (W.putObj D (.deferred none)) := belowF_put (z := w1.heap.size) (Nat.le_refl _) HGZ2.out W _ _ HK.out rfl
      have hB3 := HB.out.trans hB2
      refine ⟨_, results_tmp3 rfl _ _ _, ?_⟩
      rw [HE.out]
      exact ⟨g, n, c1, none, 0, 0, rfl, ⟨own_putObj HOW.out.own HK.out _, HOW.out.pos⟩, h5, Reads.nil, by omega, Nat.le_refl _, B1.out.trans (hB3.mono (by omega))⟩
  case stop =>
    rintro D cc pre W hD ⟨k, hk, hpre⟩ ⟨⟨⟨v, hv, hrow, _⟩, hB⟩, rfl, hlen⟩ hK'
    have HGZ : Hid (g < w1.heap.size ∧ g ≠ D) := Lib.hid (by simp at hD; omega)
    have HGZ2 : Hid (w1.heap.size ≤ D) := Lib.hid (by simp at hD; omega)
    have cNN : W.cell? ⟨w.heap.size, 0, none⟩ = some (.int .i64 (K : Int)) := (hB.cell (p := ⟨w.heap.size, 0, none⟩) hzw).trans cN
    clear hB0 bT bS cN hD
    have hpx : pre <+: freeA img := by rw [hpre]; exact freeTo_pre (by rw [HL.out]; exact hk)
    have hdl : pre.dropLast = (freeA img).take K := by
      rw [List.dropLast_eq_take, hlen, Nat.add_sub_cancel]
      have := List.prefix_iff_eq_take.1 hpx
      rw [this, List.take_take, hlen, Nat.min_eq_left (by omega)]
    have hKl : K ≤ (freeA img).length := by have := hpx.length_le; omega
    obtain ⟨L, hL⟩ : ∃ L, L = pre.dropLast := ⟨_, rfl⟩
    rw [← hL] at hrow hdl
    rw [hlen, Nat.add_sub_cancel] at hrow
    have HFR : Hid (L = (freeA img).take K ∧ K ≤ (freeA img).length) := Lib.hid ⟨hdl, hKl⟩
    have T : Hid (Tq w W w1.heap.size D g n c1 v K (tookA img (L.take 0)) L) := Lib.hid ⟨O1.out.step hB, hrow, hv, hK', bstep B1.out hB⟩
    clear hv hrow hB hL hk hlen hpre hpx hdl hKl hK'
    refine wpIn_wide.2 (wp_exit ?_)
    have hKn : K ≤ 512 := by have := freeTo_len (img := img) img.length; have := HFR.out.2; unfold freeA at this; have := HL.out; omega
    have HE : Hid (takeA img K = (tookA img L, L, 0)) := Lib.hid (by unfold takeA; rw [if_neg (by omega), if_neg (by have := HFR.out.2; omega), Int.toNat_natCast, ← HFR.out.1])
    have HLM : Hid (∀ k ∈ L, 3 ≤ k ∧ k < n) := Lib.hid fun k hk => by
      have q1 := freeTo_mem.1 (List.mem_of_mem_take (show k ∈ (freeA img).take K by rw [← HFR.out.1]; exact hk))
      have q2 := first_le HM.out.1.1 HM.out.1.2
      have q3 := HL.out
      exact ⟨by omega, by omega⟩
    have HLEN : Hid (L.length = K) := Lib.hid (by have := T.out.ol.1; rw [encN_length] at this; omega)
    obtain ⟨A8, c8, rfl, hc8, _⟩ := own_slice T.out.ol
    have HC8 := Lib.hid hc8
    clear hc8
    have cl := T.out.bx.cell
    have hkk : ¬ (K : Int) < (K : Int) := by omega
    go_wp2
    go_loopg [35] K (fun gk s35 wr => ∃ i : Nat, i ≤ K ∧ K - i ≤ gk ∧ s35 = .int .i64 i ∧ Hid (Tq w wr w1.heap.size D g n c1 (.slice A8 K c8) K (tookA img (L.take i)) L))
    case atStart => exact ⟨0, Nat.zero_le _, by omega, rfl, T⟩
    case round =>
      clear T cl cNN
      obtain ⟨i, hi, hgk, rfl, T⟩ := hrel
      by_cases hlt : i < K
      · have hil : (i : Int) < (K : Int) := by omega
        have HLX : Hid (i < L.length) := Lib.hid (by rw [HLEN.out]; exact hlt)
        obtain ⟨b, o, e1, _, g1⟩ := (Reads.of_own T.out.ol).nat hlt
        subst e1
        have hx3 := HLM.out _ (List.mem_of_getElem? (nat_get HLX.out))
        obtain ⟨X, hX⟩ : ∃ X, X = L.getD i 0 := ⟨_, rfl⟩
        rw [← hX] at g1 hx3
        have HX := Lib.hid hX
        have HMC : Hid (MapP (tookA img (L.take i)) ∧ (tookA img (L.take i)).length = n) := Lib.hid (by
          have := took_MapP HM.out (L.take i) (fun k hk => by have := HLM.out k (List.mem_of_mem_take hk); omega)
          exact ⟨this.1, this.2.1.trans HL.out⟩)
        have HNX : Hid (take1A (tookA img (L.take i)) X = tookA img (L.take (i + 1))) := Lib.hid (by rw [nat_take HLX.out, took_snoc, hX])
        clear hX
        have h1n : 1 < n := by omega
        have hXn : X < n := hx3.2
        have cc := T.out.oi.cell 1 h1n
        have hms := HMC.out.1.2
        generalize tookA img (L.take i) = ci at T HMC HNX cc hms
        have ctu := turned_any (blk ci 1) X (by omega) (by omega) (by omega)
        have HS1 : Hid (ci.set 1 (flipA (blk ci 1) X) = turn1A ci X) := Lib.hid rfl
        generalize blk ci 1 = mp at ctu cc hms HS1
        go_wp2_with fail
        refine (ctu _).mono ?_
        rintro e w3 ⟨rfl, hb3⟩
        have T3 := Lib.hid (T.out.step hb3)
        clear T hb3 cc ctu g1
        have cc := T3.out.oi.cell 1 h1n
        have ff := T3.out.oi.free 1
        have T4 := T3.out.put HGZ.out.1 HGZ.out.2 1 (flipA mp X)
        rw [HS1.out] at T4
        have T4 := Lib.hid T4
        go_wp2_with fail
        refine (padded0_any _).mono ?_
        rintro e w5 ⟨rfl, hb5⟩
        have T5 := Lib.hid (T4.out.step hb5)
        clear T3 T4 hb5 cc ff
        have cc := T5.out.oi.cell X hXn
        have ff := T5.out.oi.free X
        have T6 := T5.out.put HGZ.out.1 HGZ.out.2 X zeroB
        rw [show (turn1A ci X).set X zeroB = take1A ci X from rfl, HNX.out] at T6
        have TN := Lib.hid T6
        clear T5 T6
        go_wp2
        go_roundg (K - (i + 1))
        case measure => omega
        case rel => exact ⟨i + 1, by omega, by omega, by go_num, TN⟩
      · have : i = K := by omega
        subst this
        have HT2 : Hid (Tq w wr w1.heap.size D g n c1 (.slice A8 i c8) i (tookA img L) L) := Lib.hid (by rw [← tookA_all img L HLEN.out]; exact T.out)
        clear T
        have cl := HT2.out.bx.cell
        go_wp2
        go_quiet (fail)
        go_wp2
        rw [Exit.noGoto_ret]
        refine ⟨by simp, .inl ⟨_, _, rfl, run_takeDeferred (show (wr.drewN nq).heap[D]? = some (.deferred (some [])) from HT2.out.df), ?_⟩⟩
        have hB2 : Below w1.heap.size (wr.drewN nq) ((wr.drewN nq).putObj D (.deferred none)) := belowF_put (z := w1.heap.size) (Nat.le_refl _) HGZ2.out (wr.drewN nq) _ _ HT2.out.df rfl
        refine ⟨_, results_tmp3 rfl _ _ _, ?_⟩
        rw [HE.out]
        refine ⟨g, n, c1, A8, i, c8, rfl, ?_, h5, ?_, by omega, HC8.out, ?_⟩
        · exact ⟨own_putObj (w := wr.drewN nq) HT2.out.oi.own HT2.out.df _, HT2.out.oi.pos⟩
        · exact .of_own (own_putObj (w := wr.drewN nq) HT2.out.ol HT2.out.df _)
        · exact (below_drewN HT2.out.below nq).trans (hB2.mono (by omega))


set_option maxRecDepth 100000 in
set_option maxHeartbeats 2000000 in
theorem takeO_any (A : Option Addr) (n c : Nat) (img : List ByteArray) (x : Int) (w : World) (h : Reads w w.heap.size 1 A n (encS img)) (hf : MapP img) (hx : x ≤ 9223372036854775807) :
    Calls Tryz.prog 80 #[.slice A n c, .int .i64 x] w fun e w' => ImgLO w w' (takeA img x).1 (takeA img x).2.1 (takeA img x).2.2 e := by
  by_cases h0 : x < 0
  · have HE : Hid (takeA img x = (img, [], 13)) := Lib.hid (by unfold takeA; rw [if_pos h0])
    have hl := h.lenS
    have h8 : 8 ≤ n := by have := hf.1; omega
    have h5 : n ≤ 512 := by have := hf.1; omega
    have hco := cloneS_any A n c img (w.alloc (.cells #[.int .i64 x] 3)) (h.alloc _) (by omega)
    have cx : ∀ W, Below (w.alloc (.cells #[.int .i64 x] 3)).heap.size (w.alloc (.cells #[.int .i64 x] 3)) W → W.cell? ⟨w.heap.size, 0, none⟩ = some (.int .i64 x) := fun W hW => by
      have := hW.cell (p := ⟨w.heap.size, 0, none⟩) (by simp)
      rw [this]
      go_simp
    clear h hf hl
    go_enter Tryz.func80, Tryz.ntmps80
    go_wp2
    go_step3
    go_wp2_with fail
    refine hco.mono ?_
    rintro e w1 ⟨A1, c1, rfl, ho1, hb1⟩
    have c1x := cx w1 hb1
    obtain ⟨g1, rfl, hOO⟩ := OwI.of ho1 (by omega)
    have HR := Lib.hid (And.intro (show OwI w1 w.heap.size g1 n c1 img from ⟨own_base hOO.own (by simp), hOO.pos⟩) (((Below.refl _ w).alloc (Nat.le_refl _) (.cells #[.int .i64 x] 3)).trans (hb1.mono (by simp))))
    clear ho1 hb1 hco cx hOO
    go_wp2
    rw [Exit.noGoto_ret]
    go_ret3
    rw [HE.out]
    exact ⟨g1, n, c1, none, 0, 0, rfl, HR.out.1, h5, Reads.nil, by omega, Nat.le_refl _, HR.out.2⟩
  · obtain ⟨K, rfl⟩ : ∃ K : Nat, x = K := ⟨x.toNat, by omega⟩
    exact takeO_in A n c img K w h hf (by omega)

end Go.Proofs.YtpdfkakhahfcjaaGreat

/-
  An inode taken away.
-/
namespace Go.Proofs.YtpdfkakhahfcjaaGreat
open Go.RowKit

def castN (l : List Nat) : List Int := l.map fun k : Nat => (k : Int)
def dropI (img : List ByteArray) (i : Int) : List ByteArray × Int :=
  if (heldI img i).2 ≠ 0 then (img, (heldI img i).2) else
    if (giveA img (castN (namedR (heldI img i).1))).2 = 0 then (saveR (giveA img (castN (namedR (heldI img i).1))).1 (zeroR (heldI img i).1.num), 0) else giveA img (castN (namedR (heldI img i).1))
theorem namedR_len {r : RecI} (h : OkR r) : (namedR r).length ≤ 69 := by
  unfold namedR
  rw [List.length_append, dataR_length h]
  split <;> simp <;> omega

set_option maxRecDepth 100000 in
set_option maxHeartbeats 8000000 in
theorem dropI_any (A : Option Addr) (n c : Nat) (img : List ByteArray) (i : Int) (w : World) (h : Reads w w.heap.size 1 A n (encS img)) (hf : MapP img) :
    Calls Tryz.prog 10 #[.slice A n c, .int .i64 i] w fun e w' => ImgsO w w' (dropI img i).1 (dropI img i).2 e := by
  have hz := fun W => zero_run W
  have hl := h.lenS
  have h8 : 8 ≤ n := by have := hf.1; omega
  have hn : n ≤ 512 := by have := hf.1; omega
  have cg : Calls Tryz.prog 38 #[.slice A n c, .int .i64 i] w fun e w' => e = .returned (.tuple #[.agg (cellsR (heldI img i).1).toArray, .int .i64 (heldI img i).2]) ∧ Below w.heap.size w w' := held_any A n c img i w h hn
  have hok := heldI_ok img i (by omega)
  have HB : Hid (dropI img i = if (heldI img i).2 ≠ 0 then (img, (heldI img i).2) else if (giveA img (castN (namedR (heldI img i).1))).2 = 0 then (saveR (giveA img (castN (namedR (heldI img i).1))).1 (zeroR (heldI img i).1.num), 0) else giveA img (castN (namedR (heldI img i).1))) := Lib.hid rfl
  have H := Lib.hid h
  have HM := Lib.hid hf
  clear h hl hf
  generalize heldI img i = x at cg hok HB
  obtain ⟨r, ec⟩ := x
  dsimp only at cg hok HB
  have HR := Lib.hid hok
  have cn := fun W => named_any r hok W
  unfold valR at cn
  have hnl := namedR_len hok
  clear hok
  by_cases h0 : ec = 0
  · subst h0
    have HE0 : Hid (dropI img i = if (giveA img (castN (namedR r))).2 = 0 then (saveR (giveA img (castN (namedR r))).1 (zeroR r.num), 0) else giveA img (castN (namedR r))) := Lib.hid (by rw [HB.out, if_neg (by decide)])
    go_enter Tryz.func10, Tryz.ntmps10
    go_wp2_with fail
    refine cg.mono ?_
    rintro e w1 ⟨rfl, hb1⟩
    have B2 := (BR.new w1 (zeroR 0)).setRow r
    have bb2 : Below w.heap.size w ((w1.alloc (.cells (cellsR (zeroR 0)).toArray 62)).setRow w1.heap.size (cellsR r).toArray) := hb1.trans (((((Below.refl _ w1).alloc (Nat.le_refl _) _).trans (below_setRow _ (Nat.le_refl _) _))).mono hb1.size)
    have HX := Lib.hid (And.intro B2 bb2)
    clear B2 bb2 hb1 cg
    go_wp2_with (first | (refine wpList_store_row rfl _ _ _ rfl w1.heap.size (cellsR r).toArray rfl rfl _ (cellsR (zeroR 0)).toArray (heap_alloc_new w1 _) (sizeRr HR.out) (holdR okz HR.out) (all_oneCell_toArray (cellsR_one _)) ?_) | (refine wpList_load_mid rfl _ _ rfl w1.heap.size 0 rfl (cellsR r) _ HX.out.1.range Tryz.underlying62 rfl (by rw [cellsR_length HR.out]; exact sizeR) ?_))
    refine (cn _).mono ?_
    rintro e w3 ⟨A3, c3, rfl, ho3, hb3⟩
    have hB3 := HX.out.1.step hb3
    have HY := Lib.hid (And.intro hB3 (HX.out.2.trans (hb3.mono HX.out.2.size)))
    have hrow : Reads w3 w3.heap.size 1 A3 (namedR r).length (encI (castN (namedR r))) := by rw [show encI (castN (namedR r)) = encN (namedR r) from encI_nat _]; exact Reads.of_own ho3
    have cv := giveO_any A A3 n c (namedR r).length c3 img (castN (namedR r)) w3 (H.out.step HY.out.2) HM.out hrow (by omega)
    clear ho3 hb3 hB3 cn hrow
    generalize giveA img (castN (namedR r)) = y at cv HE0
    obtain ⟨yi, ye⟩ := y
    dsimp only at cv HE0
    generalize (namedR r).length = q at cv ⊢
    go_wp2_with fail
    refine cv.mono ?_
    rintro e w4 ⟨g4, n4, c4, rfl, hO4, hn4, hb4⟩
    have HZ := Lib.hid (And.intro (show OwI w4 w.heap.size g4 n4 c4 yi from ⟨own_base hO4.own HY.out.2.size, hO4.pos⟩) (And.intro (HY.out.1.step hb4) (bstep HY.out.2 hb4)))
    clear hO4 hb4 cv
    by_cases hy : ye = 0
    · subst hy
      have HE : Hid (dropI img i = (saveR yi (zeroR r.num), 0)) := Lib.hid (by rw [HE0.out, if_pos rfl])
      have hcn := HZ.out.2.1.num
      have cs := saveR_any (zeroR r.num) (zeroR_ok HR.out.num) w.heap.size g4 n4 c4 yi w4 HZ.out.1
      unfold valR at cs
      go_wp2_with (refine wpList_built rfl _ _ rfl _ (built_num r.num) ?_)
      refine cs.mono ?_
      rintro e w5 ⟨rfl, hO5, hbt⟩
      have HV := Lib.hid (And.intro hO5 (HZ.out.2.2.trans (hbt.to_below (B := w.heap.size) HZ.out.1.ge HZ.out.2.2.size)))
      clear hO5 hbt cs
      go_wp2
      go_ret2
      rw [HE.out]
      exact ⟨g4, n4, c4, rfl, HV.out.1, hn4, HV.out.2⟩
    · have HE : Hid (dropI img i = (yi, ye)) := Lib.hid (by rw [HE0.out, if_neg hy])
      have hyb : (ye == 0) = false := by rw [beq_eq_false_iff_ne]; exact hy
      clear hy
      go_wp2
      go_ret2
      rw [HE.out]
      exact ⟨g4, n4, c4, rfl, HZ.out.1, hn4, HZ.out.2.2⟩
  · have HE : Hid (dropI img i = (img, ec)) := Lib.hid (by rw [HB.out, if_pos h0])
    have hne : (ec != 0) = true := by rw [bne_iff_ne]; exact h0
    clear h0
    go_enter Tryz.func10, Tryz.ntmps10
    go_wp2_with fail
    refine cg.mono ?_
    rintro e w1 ⟨rfl, hb1⟩
    have B2 := (BR.new w1 (zeroR 0)).setRow r
    have bb2 : Below w.heap.size w ((w1.alloc (.cells (cellsR (zeroR 0)).toArray 62)).setRow w1.heap.size (cellsR r).toArray) := hb1.trans (((((Below.refl _ w1).alloc (Nat.le_refl _) _).trans (below_setRow _ (Nat.le_refl _) _))).mono hb1.size)
    have HX := Lib.hid (And.intro B2 bb2)
    clear B2 bb2 hb1 cg
    have hco := cloneS_any A n c img ((w1.alloc (.cells (cellsR (zeroR 0)).toArray 62)).setRow w1.heap.size (cellsR r).toArray) (H.out.step HX.out.2) (by omega)
    go_wp2_with (refine wpList_store_row rfl _ _ _ rfl w1.heap.size (cellsR r).toArray rfl rfl _ (cellsR (zeroR 0)).toArray (heap_alloc_new w1 _) (sizeRr HR.out) (holdR okz HR.out) (all_oneCell_toArray (cellsR_one _)) ?_)
    refine hco.mono ?_
    rintro e w3 ⟨A3, c3, rfl, ho3, hb3⟩
    obtain ⟨g3, rfl, hO3⟩ := OwI.of ho3 (by omega)
    have HV := Lib.hid (And.intro (show OwI w3 w.heap.size g3 n c3 img from ⟨own_base hO3.own HX.out.2.size, hO3.pos⟩) (HX.out.2.trans (hb3.mono HX.out.2.size)))
    clear ho3 hb3 hO3 hco
    go_wp2
    go_ret2
    rw [HE.out]
    exact ⟨g3, n, c3, rfl, HV.out.1, hn, HV.out.2⟩

end Go.Proofs.YtpdfkakhahfcjaaGreat

/-
  Truncate, given what grow and shrink do.
-/
namespace Go.Proofs.YtpdfkakhahfcjaaGreat
open Go.RowKit

def growI (img : List ByteArray) (r : RecI) (size : Nat) : List ByteArray × Int :=
  if (takeA img ((needAllN size : Int) - (needAllN r.size : Int))).2.2 ≠ 0 then ((takeA img ((needAllN size : Int) - (needAllN r.size : Int))).1, (takeA img ((needAllN size : Int) - (needAllN r.size : Int))).2.2) else
    (saveR (takeA img ((needAllN size : Int) - (needAllN r.size : Int))).1 (nameR r size (dataR r ++ (takeA img ((needAllN size : Int) - (needAllN r.size : Int))).2.1.take (needN size - needN r.size))
      (if needN size - needN r.size < (takeA img ((needAllN size : Int) - (needAllN r.size : Int))).2.1.length then (takeA img ((needAllN size : Int) - (needAllN r.size : Int))).2.1.getD (needN size - needN r.size) 0 else r.ind)), 0)
/-- The blocks that are given back. -/
def backI (r : RecI) (size : Nat) : List Nat := (dataR r).drop (needN size) ++ if needN size ≤ 4 ∧ r.ind ≠ 0 then [r.ind] else []
def shrinkI (img : List ByteArray) (r : RecI) (size : Nat) : List ByteArray × Int :=
  if (giveA img (castN (backI r size))).2 ≠ 0 then giveA img (castN (backI r size)) else
    (saveR (if 0 < size % 128 then putI (giveA img (castN (backI r size))).1 (((dataR r).take (needN size)).getD (needN size - 1) 0) (size % 128) (zeroN (128 - size % 128)) else (giveA img (castN (backI r size))).1)
      (nameR r size ((dataR r).take (needN size)) (if needN size ≤ 4 ∧ r.ind ≠ 0 then 0 else r.ind)), 0)
def truncI (img : List ByteArray) (i x : Int) : List ByteArray × Int :=
  if (heldI img i).2 ≠ 0 then (img, (heldI img i).2) else if x < 0 then (img, 13) else if 8704 < x then (img, 12) else
    if ((heldI img i).1.size : Int) < x then growI img (heldI img i).1 x.toNat else shrinkI img (heldI img i).1 x.toNat

set_option maxRecDepth 100000 in
set_option maxHeartbeats 8000000 in
theorem truncI_of (A : Option Addr) (n c : Nat) (img : List ByteArray) (i x : Int) (w : World) (h : Reads w w.heap.size 1 A n (encS img)) (hf : MapP img) (hx0 : -9223372036854775808 ≤ x) (hx1 : x ≤ 9223372036854775807)
    (hg : ∀ (r : RecI) (size : Nat) (W : World), OkR r → r.size < size → size ≤ 8704 → Reads W W.heap.size 1 A n (encS img) →
      Calls Tryz.prog 46 #[.agg (cellsR r).toArray, .slice A n c, .int .i64 (size : Int)] W fun e w' => ImgsO W w' (growI img r size).1 (growI img r size).2 e)
    (hs : ∀ (r : RecI) (size : Nat) (W : World), OkR r → size ≤ r.size → size ≤ 8704 → Reads W W.heap.size 1 A n (encS img) →
      Calls Tryz.prog 47 #[.agg (cellsR r).toArray, .slice A n c, .int .i64 (size : Int)] W fun e w' => ImgsO W w' (shrinkI img r size).1 (shrinkI img r size).2 e) :
    Calls Tryz.prog 14 #[.slice A n c, .int .i64 i, .int .i64 x] w fun e w' => ImgsO w w' (truncI img i x).1 (truncI img i x).2 e := by
  have hl := h.lenS
  have h8 : 8 ≤ n := by have := hf.1; omega
  have hn : n ≤ 512 := by have := hf.1; omega
  have cg : Calls Tryz.prog 38 #[.slice A n c, .int .i64 i] w fun e w' => e = .returned (.tuple #[.agg (cellsR (heldI img i).1).toArray, .int .i64 (heldI img i).2]) ∧ Below w.heap.size w w' := held_any A n c img i w h hn
  have hok := heldI_ok img i (by omega)
  have HB : Hid (truncI img i x = if (heldI img i).2 ≠ 0 then (img, (heldI img i).2) else if x < 0 then (img, 13) else if 8704 < x then (img, 12) else if ((heldI img i).1.size : Int) < x then growI img (heldI img i).1 x.toNat else shrinkI img (heldI img i).1 x.toNat) := Lib.hid rfl
  have H := Lib.hid h
  clear h hl hf
  generalize heldI img i = y at cg hok HB
  obtain ⟨r, ec⟩ := y
  dsimp only at cg hok HB
  have HR := Lib.hid hok
  have HGS := Lib.hid (And.intro hg hs)
  clear hok hg hs
  go_enter Tryz.func14, Tryz.ntmps14
  go_wp2_with fail
  refine cg.mono ?_
  rintro e w1 ⟨rfl, hb1⟩
  have B2 := (BR.new w1 (zeroR 0)).setRow r
  have bb2 : Below w.heap.size w ((w1.alloc (.cells (cellsR (zeroR 0)).toArray 62)).setRow w1.heap.size (cellsR r).toArray) := hb1.trans (((((Below.refl _ w1).alloc (Nat.le_refl _) _).trans (below_setRow _ (Nat.le_refl _) _))).mono hb1.size)
  have HX := Lib.hid (And.intro B2 bb2)
  have hsz : ((w1.alloc (.cells Tryz.zeroCells62 62)).setRow w1.heap.size (cellsR r).toArray).cell? ⟨w1.heap.size, 2, none⟩ = some (.int .i64 (r.size : Int)) := B2.size
  have hco := cloneS_any A n c img ((w1.alloc (.cells (cellsR (zeroR 0)).toArray 62)).setRow w1.heap.size (cellsR r).toArray) (H.out.step bb2) (by omega)
  clear B2 bb2 hb1 cg
  by_cases h0 : ec = 0
  · subst h0
    by_cases hxn : x < 0
    · have HE : Hid (truncI img i x = (img, 13)) := Lib.hid (by rw [HB.out, if_neg (by decide), if_pos hxn])
      go_wp2_with (refine wpList_store_row rfl _ _ _ rfl w1.heap.size (cellsR r).toArray rfl rfl _ (cellsR (zeroR 0)).toArray (heap_alloc_new w1 _) (sizeRr HR.out) (holdR okz HR.out) (all_oneCell_toArray (cellsR_one _)) ?_)
      refine hco.mono ?_
      rintro e w3 ⟨A3, c3, rfl, ho3, hb3⟩
      obtain ⟨g3, rfl, hO3⟩ := OwI.of ho3 (by omega)
      have HV := Lib.hid (And.intro (show OwI w3 w.heap.size g3 n c3 img from ⟨own_base hO3.own HX.out.2.size, hO3.pos⟩) (HX.out.2.trans (hb3.mono HX.out.2.size)))
      clear ho3 hb3 hO3 hco
      go_wp2
      go_ret2
      rw [HE.out]
      exact ⟨g3, n, c3, rfl, HV.out.1, hn, HV.out.2⟩
    obtain ⟨k, rfl⟩ : ∃ k : Nat, x = k := ⟨x.toNat, by omega⟩
    by_cases hxl : (8704 : Int) < k
    · have HE : Hid (truncI img i k = (img, 12)) := Lib.hid (by rw [HB.out, if_neg (by decide), if_neg hxn, if_pos hxl])
      go_wp2_with (refine wpList_store_row rfl _ _ _ rfl w1.heap.size (cellsR r).toArray rfl rfl _ (cellsR (zeroR 0)).toArray (heap_alloc_new w1 _) (sizeRr HR.out) (holdR okz HR.out) (all_oneCell_toArray (cellsR_one _)) ?_)
      refine hco.mono ?_
      rintro e w3 ⟨A3, c3, rfl, ho3, hb3⟩
      obtain ⟨g3, rfl, hO3⟩ := OwI.of ho3 (by omega)
      have HV := Lib.hid (And.intro (show OwI w3 w.heap.size g3 n c3 img from ⟨own_base hO3.own HX.out.2.size, hO3.pos⟩) (HX.out.2.trans (hb3.mono HX.out.2.size)))
      clear ho3 hb3 hO3 hco
      go_wp2
      go_ret2
      rw [HE.out]
      exact ⟨g3, n, c3, rfl, HV.out.1, hn, HV.out.2⟩
    have hkl : k ≤ 8704 := by omega
    clear hco
    by_cases hsk : (r.size : Int) < k
    · have HE : Hid (truncI img i k = growI img r k) := Lib.hid (by rw [HB.out, if_neg (by decide), if_neg hxn, if_neg hxl, if_pos hsk]; rfl)
      have cv := HGS.out.1 r k _ HR.out (by omega) hkl (H.out.step HX.out.2)
      generalize growI img r k = y at cv HE
      obtain ⟨yi, ye⟩ := y
      dsimp only at cv HE
      go_wp2_with (first | (refine wpList_store_row rfl _ _ _ rfl w1.heap.size (cellsR r).toArray rfl rfl _ (cellsR (zeroR 0)).toArray (heap_alloc_new w1 _) (sizeRr HR.out) (holdR okz HR.out) (all_oneCell_toArray (cellsR_one _)) ?_) | (refine wpList_load_mid rfl _ _ rfl w1.heap.size 0 rfl (cellsR r) _ HX.out.1.range Tryz.underlying62 rfl (by rw [cellsR_length HR.out]; exact sizeR) ?_))
      refine cv.mono ?_
      rintro e w4 ⟨g4, n4, c4, rfl, hO4, hn4, hb4⟩
      have HZ := Lib.hid (And.intro (show OwI w4 w.heap.size g4 n4 c4 yi from ⟨own_base hO4.own HX.out.2.size, hO4.pos⟩) (HX.out.2.trans (hb4.mono HX.out.2.size)))
      clear hO4 hb4 cv
      go_wp2
      go_ret2
      rw [HE.out]
      exact ⟨g4, n4, c4, rfl, HZ.out.1, hn4, HZ.out.2⟩
    · have HE : Hid (truncI img i k = shrinkI img r k) := Lib.hid (by rw [HB.out, if_neg (by decide), if_neg hxn, if_neg hxl, if_neg hsk]; rfl)
      have cv := HGS.out.2 r k _ HR.out (by omega) hkl (H.out.step HX.out.2)
      generalize shrinkI img r k = y at cv HE
      obtain ⟨yi, ye⟩ := y
      dsimp only at cv HE
      go_wp2_with (first | (refine wpList_store_row rfl _ _ _ rfl w1.heap.size (cellsR r).toArray rfl rfl _ (cellsR (zeroR 0)).toArray (heap_alloc_new w1 _) (sizeRr HR.out) (holdR okz HR.out) (all_oneCell_toArray (cellsR_one _)) ?_) | (refine wpList_load_mid rfl _ _ rfl w1.heap.size 0 rfl (cellsR r) _ HX.out.1.range Tryz.underlying62 rfl (by rw [cellsR_length HR.out]; exact sizeR) ?_))
      refine cv.mono ?_
      rintro e w4 ⟨g4, n4, c4, rfl, hO4, hn4, hb4⟩
      have HZ := Lib.hid (And.intro (show OwI w4 w.heap.size g4 n4 c4 yi from ⟨own_base hO4.own HX.out.2.size, hO4.pos⟩) (HX.out.2.trans (hb4.mono HX.out.2.size)))
      clear hO4 hb4 cv
      go_wp2
      go_ret2
      rw [HE.out]
      exact ⟨g4, n4, c4, rfl, HZ.out.1, hn4, HZ.out.2⟩
  · have HE : Hid (truncI img i x = (img, ec)) := Lib.hid (by rw [HB.out, if_pos h0])
    have hne : (ec != 0) = true := by rw [bne_iff_ne]; exact h0
    clear h0
    go_wp2_with (refine wpList_store_row rfl _ _ _ rfl w1.heap.size (cellsR r).toArray rfl rfl _ (cellsR (zeroR 0)).toArray (heap_alloc_new w1 _) (sizeRr HR.out) (holdR okz HR.out) (all_oneCell_toArray (cellsR_one _)) ?_)
    refine hco.mono ?_
    rintro e w3 ⟨A3, c3, rfl, ho3, hb3⟩
    obtain ⟨g3, rfl, hO3⟩ := OwI.of ho3 (by omega)
    have HV := Lib.hid (And.intro (show OwI w3 w.heap.size g3 n c3 img from ⟨own_base hO3.own HX.out.2.size, hO3.pos⟩) (HX.out.2.trans (hb3.mono HX.out.2.size)))
    clear ho3 hb3 hO3 hco
    go_wp2
    go_ret2
    rw [HE.out]
    exact ⟨g3, n, c3, rfl, HV.out.1, hn, HV.out.2⟩

end Go.Proofs.YtpdfkakhahfcjaaGreat
