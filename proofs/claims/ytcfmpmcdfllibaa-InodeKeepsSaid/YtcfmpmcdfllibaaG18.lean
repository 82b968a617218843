/-
  Blocks given back, as the program does: the image is the call's own.
-/
import Derived.Test.YtcfmpmcdfllibaaG17
import Derived.Test.YtcfmpmcdfllibaaG09
namespace Go.Proofs.Ytcfmpmcdfllibaa
open Go.RowKit

/-- An image of the call's own, and an error. -/
def ImgsO (w w' : World) (img : List ByteArray) (code : Int) (e : Ending) : Prop := ∃ g n c, e = .returned (.tuple #[.slice (some ⟨g, 0, none⟩) n c, .int .i64 code]) ∧ OwI w' w.heap.size g n c img ∧ n ≤ 512 ∧ Below w.heap.size w w'

set_option maxRecDepth 100000 in
set_option maxHeartbeats 4000000 in
theorem giveO_any (A B : Option Addr) (n c m cm : Nat) (img : List ByteArray) (l : List Int) (w : World) (h : Reads w w.heap.size 1 A n (encS img)) (hf : MapP img) (hB : Reads w w.heap.size 1 B m (encI l)) (hm : m ≤ 17592186044416) :
    Calls Try.prog 50 #[.slice A n c, .slice B m cm] w fun e w' => ImgsO w w' (giveA img l).1 (giveA img l).2 e := by
  have hl := h.lenS
  have hlm := hB.lenI
  have h8 : 8 ≤ n := by have := hf.1; omega
  have h5 : n ≤ 512 := by have := hf.1; omega
  obtain ⟨F, hF⟩ : ∃ F, F = firstA n := ⟨_, rfl⟩
  have cf := fun A c W => first_any A n c (by unfold maxLen; omega) W
  have co := fun W hW => cloneS_any A n c img W hW (by omega)
  rw [← hF] at cf
  have HO : Hid (∀ x, outA img x ↔ (x < (F : Int) ∨ (n : Int) ≤ x)) := Lib.hid (fun x => by unfold outA; rw [hl, hF])
  have hF34 : F ≤ 34 := by have := first_le h8 h5; omega
  have HL := Lib.hid (And.intro hl hlm)
  have HM := Lib.hid hf
  have H := Lib.hid (And.intro h hB)
  have ct := fun (A : Option Addr) (c : Nat) (ci : List ByteArray) (i : Int) W hW hc => takenA_any A n c ci i W hW hc
  have cm := fun (A : Option Addr) (c : Nat) (ci : List ByteArray) W hW hc => mapped_any A n c ci W hW hc
  clear h hB hl hlm hF hf
  go_enter Try.func50, Try.ntmps50
  go_wp2_with fail
  refine (co _ H.out.1).mono ?_
  rintro e w1 ⟨A1, c1, rfl, ho1, hb1⟩
  obtain ⟨g, rfl, hO1⟩ := OwI.of ho1 (by omega)
  have J1 := Lib.hid (And.intro hO1 hb1)
  have HA := H
  have H1 := Lib.hid (And.intro (H.out.1.step hb1) (H.out.2.step hb1))
  clear ho1 hb1 hO1
  go_wp2
  go_loopg [15] m (fun gk s15 wr => ∃ i : Nat, i ≤ m ∧ m - i ≤ gk ∧ s15 = .int .i64 i ∧ w1 = wr ∧ Hid (∀ k, k < i → ¬ outA img (l.getD k 0)))
  case atStart => exact ⟨0, Nat.zero_le _, by omega, rfl, rfl, Lib.hid fun k hk => absurd hk (Nat.not_lt_zero _)⟩
  case round =>
    obtain ⟨i, hi, hgk, rfl, rfl, J⟩ := hrel
    by_cases hlt : i < m
    · have hil : (i : Int) < (m : Int) := by omega
      obtain ⟨b, o, rfl, _, g1⟩ := H1.out.2.int hlt
      have HLX : Hid (i < l.length) := Lib.hid (by rw [HL.out.2]; exact hlt)
      obtain ⟨x, hx⟩ : ∃ x, x = l.getD i 0 := ⟨_, rfl⟩
      rw [← hx] at g1
      have HX := Lib.hid hx
      clear hx
      by_cases d1 : x < (F : Int)
      · have HE := Lib.hid (giveA_out (img := img) (l := l) (x := x) (by rw [HX.out]; exact int_mem HLX.out) ((HO.out x).2 (.inl d1)))
        go_wp2_with (go_at_call 28; refine (cf _ _ _).mono ?_; rintro e w8 ⟨rfl, rfl⟩)
        go_ret2
        rw [HE.out]
        exact ⟨g, n, c1, rfl, J1.out.1, h5, J1.out.2⟩
      · by_cases d2 : (n : Int) ≤ x
        · have HE := Lib.hid (giveA_out (img := img) (l := l) (x := x) (by rw [HX.out]; exact int_mem HLX.out) ((HO.out x).2 (.inr d2)))
          go_wp2_with (first | (go_at_call 28; refine (cf _ _ _).mono ?_; rintro e w8 ⟨rfl, rfl⟩) | (go_at_call 63; refine (cm _ _ img _ H1.out.1 HM.out).mono ?_; rintro e w8 ⟨rfl, rfl⟩))
          go_ret2
          rw [HE.out]
          exact ⟨g, n, c1, rfl, J1.out.1, h5, J1.out.2⟩
        · have JN : Hid (∀ k, k < i + 1 → ¬ outA img (l.getD k 0)) := Lib.hid fun k hk => by
            by_cases e : k = i
            · rw [e, ← HX.out, HO.out]; omega
            · exact J.out k (by omega)
          go_wp2_with (first | (go_at_call 28; refine (cf _ _ _).mono ?_; rintro e w8 ⟨rfl, rfl⟩) | (go_at_call 63; refine (cm _ _ img _ H1.out.1 HM.out).mono ?_; rintro e w8 ⟨rfl, rfl⟩))
          go_roundg (m - (i + 1))
          case measure => omega
          case rel => exact ⟨i + 1, by omega, by omega, by go_num, rfl, JN⟩
    · have : i = m := by omega
      subst this
      have HIN : Hid (∀ x ∈ l, ¬ outA img x) := Lib.hid fun x hx => by
        obtain ⟨k, hk, e⟩ := List.mem_iff_getElem.1 hx
        have := J.out k (by rw [← HL.out.2]; exact hk)
        rw [List.getD_eq_getElem?_getD, List.getElem?_eq_getElem hk] at this
        rw [← e]; exact this
      have HG := Lib.hid (giveA_in HIN.out)
      clear J
      go_wp2
      go_loopg [33] i (fun gk s33 wr => ∃ (j : Nat) (ci : List ByteArray), j ≤ i ∧ i - j ≤ gk ∧ s33 = .int .i64 j ∧ Hid (gaveA img (l.take j) = some ci) ∧ Hid (OwI wr w.heap.size g n c1 ci ∧ Below w.heap.size w wr ∧ Reads wr wr.heap.size 1 A n (encS img) ∧ Reads wr wr.heap.size 1 B i (encI l)))
      case atStart => exact ⟨0, img, Nat.zero_le _, by omega, rfl, Lib.hid rfl, Lib.hid ⟨J1.out.1, J1.out.2, H1.out.1, H1.out.2⟩⟩
      case round =>
        clear J1 H1
        obtain ⟨j, ci, hj, hgk, rfl, K, J⟩ := hrel
        by_cases hlt : j < i
        · have hil : (j : Int) < (i : Int) := by omega
          obtain ⟨b, o, rfl, hbb, g1⟩ := J.out.2.2.2.int hlt
          have HLX : Hid (j < l.length) := Lib.hid (by rw [HL.out.2]; exact hlt)
          have HNO := Lib.hid (HIN.out _ (int_mem HLX.out))
          obtain ⟨x, hx⟩ : ∃ x, x = l.getD j 0 := ⟨_, rfl⟩
          rw [← hx] at g1 HNO
          have HX := Lib.hid hx
          have hxr : (F : Int) ≤ x ∧ x < (n : Int) := by
            have := HNO.out
            rw [HO.out] at this
            omega
          obtain ⟨X, hX⟩ : ∃ X : Nat, x = X := ⟨x.toNat, by omega⟩
          subst hX
          have hXn : X < n := by omega
          have MC := Lib.hid (gave_MapP _ HM.out K.out)
          have cti := ct (some ⟨g, 0, none⟩) c1 ci X _ J.out.1.reads MC.out.1
          rw [takenA_in (by rw [MC.out.2, HL.out.1]; exact hXn)] at cti
          obtain ⟨t, ht⟩ : ∃ t, t = bitA (blk ci 1) X := ⟨_, rfl⟩
          rw [← ht] at cti
          have HT := Lib.hid ht
          have HNG : Hid (∀ q, q < wr.heap.size → q < w.heap.size → q ≠ g) := Lib.hid fun q _ hq e => by have := J.out.1.ge; omega
          clear hx ht hxr
          cases t with
          | true =>
            have KN := Lib.hid (gave_yes K.out HLX.out (by rw [← HX.out, Int.toNat_natCast]; exact HT.out.symm))
            rw [← HX.out, Int.toNat_natCast] at KN
            have h1n : 1 < n := by omega
            have c1' := J.out.1.cell 1 h1n
            have hms := MC.out.1.2
            have ctu := turned_any (blk ci 1) X (by omega) (by omega) (by omega)
            obtain ⟨mp, hmp⟩ : ∃ mp, mp = blk ci 1 := ⟨_, rfl⟩
            have HMP : Hid (ci.set 1 (flipA mp X) = turn1A ci X) := Lib.hid (by rw [hmp]; rfl)
            rw [← hmp] at c1' ctu hms
            clear hmp
            go_wp2_with (go_at_call 29; refine cti.mono ?_; rintro e w3 ⟨rfl, rfl⟩)
            refine (ctu _).mono ?_
            rintro e w8 ⟨rfl, hb8⟩
            have J8 := Lib.hid (And.intro (J.out.1.step hb8) (bstep J.out.2.1 hb8))
            clear c1' hb8 J g1 ctu cti
            have c1' := J8.out.1.cell 1 h1n
            have f1' := J8.out.1.free 1
            have hs8 := J8.out.1.set 1 (flipA mp X)
            rw [HMP.out] at hs8
            have hbe := J8.out.1.below_set 1 (.string (flipA mp X)) (Nat.le_refl _) J8.out.2
            have JN := Lib.hid (And.intro hs8 (And.intro hbe (And.intro (HA.out.1.step hbe) (HA.out.2.step hbe))))
            clear hs8 hbe J8
            go_wp2
            go_roundg (i - (j + 1))
            case measure => omega
            case rel => exact ⟨j + 1, _, by omega, by omega, by go_num, KN, JN⟩
          | false =>
            have HE : Hid (giveA img l = (img, 20)) := Lib.hid (by rw [HG.out, gave_no K.out HLX.out (by rw [← HX.out, Int.toNat_natCast]; exact HT.out.symm)])
            have cown := co _ J.out.2.2.1
            go_wp2_with (go_at_call 29; refine cti.mono ?_; rintro e w3 ⟨rfl, rfl⟩)
            refine cown.mono ?_
            rintro e w8 ⟨A8, c8, rfl, hO8, hb8⟩
            obtain ⟨g8, rfl, hOO⟩ := OwI.of hO8 (by omega)
            have HR := Lib.hid (And.intro (show OwI w8 w.heap.size g8 n c8 img from ⟨own_base hOO.own J.out.2.1.size, hOO.pos⟩) (bstep J.out.2.1 hb8))
            clear hOO
            clear hO8 hb8
            go_wp2
            go_ret2
            rw [HE.out]
            exact ⟨g8, n, c8, rfl, HR.out.1, h5, HR.out.2⟩
        · have : j = i := by omega
          subst this
          have HE : Hid (giveA img l = (ci, 0)) := Lib.hid (by
            have := K.out
            rw [List.take_of_length_le (by rw [HL.out.2]; exact Nat.le_refl _)] at this
            rw [HG.out, this])
          go_wp2
          go_ret2
          rw [HE.out]
          exact ⟨g, n, c1, rfl, J.out.1, h5, J.out.2.1⟩

end Go.Proofs.Ytcfmpmcdfllibaa

/-
  Blocks taken, as the program does: the image is the call's own.
-/
namespace Go.Proofs.Ytcfmpmcdfllibaa
open Go.RowKit Go.Shelf
attribute [local go_sem] Oper.semAt_some

/-- An image of the call's own, the blocks, and an error. -/
def ImgLO (w w' : World) (img : List ByteArray) (l : List Nat) (code : Int) (e : Ending) : Prop := ∃ g n c A2 k c2, e = .returned (.tuple #[.slice (some ⟨g, 0, none⟩) n c, .slice A2 k c2, .int .i64 code]) ∧ OwI w' w.heap.size g n c img ∧ n ≤ 512 ∧ Reads w' w'.heap.size 1 A2 k (encN l) ∧ k ≤ 512 ∧ k ≤ c2 ∧ Below w.heap.size w w'

set_option maxRecDepth 100000 in
set_option maxHeartbeats 4000000 in
theorem takeO_in (A : Option Addr) (n c : Nat) (img : List ByteArray) (K : Nat) (w : World) (h : Reads w w.heap.size 1 A n (encS img)) (hf : MapP img) (hK : K ≤ 9223372036854775807) :
    Calls Try.prog 80 #[.slice A n c, .int .i64 K] w fun e w' => ImgLO w w' (takeA img K).1 (takeA img K).2.1 (takeA img K).2.2 e := by
  obtain ⟨i0, hi0, hy0, hy1, hy2⟩ := info_parts infoI
  have hl := h.lenS
  have h8 : 8 ≤ n := by have := hf.1; omega
  have h5 : n ≤ 512 := by have := hf.1; omega
  have hd0 : decide ((K : Int) < 0) = false := by simp
  have H := Lib.hid h
  have HM := Lib.hid hf
  have HL := Lib.hid hl
  have hco := cloneS_any A n c img (w.alloc (.cells #[.int .i64 (K : Int)] 3)) (h.alloc _) (by omega)
  clear h hf hl
  refine (callsIn_wide (n := 3)).1 ?_
  refine callsIn_of_wp_marks Try.func80 rfl trivial ?_ rfl
  refine wpIn_wide.2 ?_
  simp only [Try.ntmps80, List.size_toArray, List.length_cons, List.length_nil, Nat.reduceAdd, Nat.reduceSub, Array.replicate_succ, Array.replicate_zero, List.push_toArray, List.append_toArray, List.nil_append, List.cons_append]
  go_wp2
  go_step3
  go_wp2_with fail
  refine hco.mono ?_
  rintro e w1 ⟨A1, c1, rfl, ho1, hb1⟩
  have bN : Boxed w1 w.heap.size 3 (.int .i64 (K : Int)) := (hb1.block w.heap.size (by simp)).trans (heap_alloc_new w _)
  obtain ⟨g, rfl, hO⟩ := OwI.of ho1 (by omega)
  have hzw : w.heap.size < w1.heap.size := bN.lt
  have B1 : Hid (Below w.heap.size w w1) := Lib.hid (((Below.refl _ w).alloc (Nat.le_refl _) _).trans (hb1.mono (by simp)))
  have O1 := Lib.hid (show OwI w1 w.heap.size g n c1 img from ⟨own_base hO.own (by simp), hO.pos⟩)
  have hgw : g < w1.heap.size := hO.lt
  have cN := bN.cell
  have BN := Lib.hid bN
  clear bN hO ho1 hb1 hco
  go_wp2_with fail
  go_step3
  go_wp2_with (go_at_call 51; refine ((callsIn_wide (n := 2)).1 (freeFn_in 2 _ _ _ _)).mono ?_; rintro e w' ⟨rfl, rfl⟩)
  refine (wpIn_wide (n := 3)).1 ?_
  have hB0 : Below w1.heap.size w1 ((w1.alloc (.cells #[.slice none 0 0] 38)).alloc (.cells #[.slice A n c] 22)) := ((Below.refl _ w1).alloc (Nat.le_refl _) _).alloc (by simp) _
  have bT := (Boxed.new w1 38 (.slice none 0 0)).alloc (.cells #[.slice A n c] 22)
  have bS := Boxed.new (w1.alloc (.cells #[.slice none 0 0] 38)) 22 (.slice A n c)
  simp only [World.size_alloc] at bT bS
  refine wpIn_rangeFunc_ownG rfl (by omega) (gf := 82) (lb := #[.pointer (some ⟨w1.heap.size + 1, 0, none⟩)]) rfl trivial (enters_of Try.func82 (by kernel_rfl) rfl)
    (free_stops 2 (by omega) (w1.heap.size + 1) w1.heap.size A n c img HM.out _ (by simp; omega) (by simp) bS.cell ((H.out.step B1.out).below hB0)) KpF.trans (kpF_put (by simp; omega) (by simp)) (Below.refl _ _) (fun _ => rfl)
    (InvT w1 (.slice A n c) K) (OutT w1 K)
    (OwnFrom.and (Own.from (boxed_own _ _ (fun _ => .slice A n c)) _) <| OwnFrom.and (OwnFrom.and (Own.from (holdsRow_own w1.heap.size w1.heap.size 38 3 1 (fun pre : List Nat => pre.length) (fun pre : List Nat => encN pre) (fun _ _ => True)) _) (ownFrom_below (Nat.le_refl _) (by simp; omega))) (ownFrom_pure _ (fun pre : List Nat => pre.length ≤ K)))
    (fun cc => OwnFrom.and (OwnFrom.and (Own.from (holdsRow_own w1.heap.size w1.heap.size 38 3 1 (fun pre : List Nat => pre.length - 1) (fun pre : List Nat => encN pre.dropLast) (fun _ _ => True)) _) (ownFrom_below (Nat.le_refl _) (by simp; omega))) (ownFrom_pure _ (fun pre : List Nat => cc = .exit 0 ∧ pre.length = K + 1)))
    ⟨bS, ⟨⟨_, bT, own_nil, trivial⟩, hB0⟩, Nat.zero_le _⟩
    (fun i => { tmps := #[.slice A n c, .int .i64 (K : Int), undef, .pointer (some ⟨w.heap.size, 0, none⟩), .slice none 0 0, .slice none 0 0, .int .i64 0, .slice (some ⟨g, 0, none⟩) n c1, .pointer (some ⟨w1.heap.size, 0, none⟩), .int .i64 (i : Int), undef, undef, .slice A n c, .slice (some ⟨g, 0, none⟩) n c1, .int .i64 (K : Int), .bool false, undef, .slice A n c, .func (.func 82) #[] #[.pointer (some ⟨w1.heap.size + 1, 0, none⟩)], .int .i64 (i : Int), undef, undef, undef, undef, undef, undef, undef, undef, undef, undef, undef, undef, undef, undef, undef, undef, undef, undef, undef, undef, undef, undef, undef, undef, undef, undef, undef, undef, undef, undef, undef, undef, undef], defers := [] }) ?assign ?body ?done ?stop
  case assign =>
    intro l i W K hK
    gi_wp2
    exact hK
  case body =>
    rintro l pre i W ⟨hS, ⟨⟨v, hv, hrow, _⟩, hB⟩, hle⟩ hlt
    have hc := hv.cell
    obtain ⟨A8, c8, rfl, _⟩ := own_slice hrow
    have cNN : W.cell? ⟨w.heap.size, 0, none⟩ = some (.int .i64 (K : Int)) := (hB.cell (p := ⟨w.heap.size, 0, none⟩) hzw).trans cN
    have hfr := freeTo_len (img := img) img.length
    have hlen5 : pre.length ≤ 512 := by unfold freeA at hlt; have := HL.out; omega
    clear hB0 bT bS hlt hfr cN
    by_cases hk : pre.length = K
    · have ht : ((pre.length : Int) == (K : Int)) = true := by rw [hk]; exact beq_self_eq_true _
      have HK := Lib.hid hk
      clear hk
      gi_wp2
      exact ⟨KeepsFrom.refl _ _, ⟨⟨_, hv, by simpa using hrow, trivial⟩, hB⟩, rfl, by simp [HK.out]⟩
    · have ht : ((pre.length : Int) == (K : Int)) = false := by rw [beq_eq_false_iff_ne]; omega
      have hkK : pre.length + 1 ≤ K := by omega
      clear hk
      gi_wp2_with (gi_at_builtin; refine wpListIn_append_own _ rfl (.tmp 24) (.tmp 26) 38 rfl w1.heap.size 3 i0 (.int .i64 0) 1 8 Try.underlying38 hi0 hy0 hy1 hy2 rfl (by decide) _ _ _ rfl (hrow.alloc _) ⟨W.heap.size, 0, none⟩ 1 1 [.int .i64 (i : Int)] rfl rfl (cell_one_new _ _ _) (by simp [Value.oneCell']) (by unfold maxLen; omega) (by omega) (by have := hB.size; simp; omega) ?_; intro v' w2 hown' hgrow _; obtain ⟨g', cap', rfl⟩ := ownsRow_succ hown'; obtain ⟨hv1, hv2, hr2, hk2, hb2⟩ := hv.appended (by decide) hrow hB.size (Nat.le_refl _) hown' hgrow; have hc1 := hv1.cell; have hf1 := hv1.frozen; have hS2 := (((hS.alloc _).kept hgrow (hS.not_row (by decide) hrow)).other (show w1.heap.size + 1 ≠ w1.heap.size by omega) (Value.slice (some ⟨g', 0, none⟩) (pre.length + 1) cap')))
      exact ⟨hk2.from _, ⟨hb2, hS2.trans hS.symm⟩, hS2, ⟨⟨_, hv2, by rw [encN_app, List.length_append]; exact hr2, trivial⟩, hB.trans hb2⟩, by rw [List.length_append]; exact hkK⟩
  case done =>
    rintro D ys W hD hys ⟨hS0, ⟨⟨v, hv, hrow, _⟩, hB⟩, hle⟩ hK'
    have HGZ : Hid (g < w1.heap.size ∧ g ≠ D) := Lib.hid (by simp at hD; omega)
    have HGZ2 : Hid (w1.heap.size ≤ D) := Lib.hid (by simp at hD; omega)
    have cNN : W.cell? ⟨w.heap.size, 0, none⟩ = some (.int .i64 (K : Int)) := (hB.cell (p := ⟨w.heap.size, 0, none⟩) hzw).trans cN
    clear hB0 bT bS cN hD
    obtain ⟨L, hL⟩ : ∃ L, L = freeA img := ⟨_, rfl⟩
    rw [hys, ← hL] at hrow
    have hLl : L.length ≤ K := by rw [hys, ← hL] at hle; exact hle
    clear hys hle
    by_cases hk : L.length = K
    · have HFR : Hid (L = (freeA img).take K ∧ K ≤ (freeA img).length) := Lib.hid ⟨by rw [← hL, List.take_of_length_le (by omega)], by rw [← hL]; omega⟩
      rw [hk] at hrow
      have T : Hid (Tq w W w1.heap.size D g n c1 v K (tookA img (L.take 0)) L) := Lib.hid ⟨O1.out.step hB, hrow, hv, hK', bstep B1.out hB⟩
      clear hv hrow hB hL hk hLl hK'
      have hKn : K ≤ 512 := by have := freeTo_len (img := img) img.length; have := HFR.out.2; unfold freeA at this; have := HL.out; omega
      have HE : Hid (takeA img K = (tookA img L, L, 0)) := Lib.hid (by unfold takeA; rw [if_neg (by omega), if_neg (by have := HFR.out.2; omega), Int.toNat_natCast, ← HFR.out.1])
      have HLM : Hid (∀ k ∈ L, 3 ≤ k ∧ k < n) := Lib.hid fun k hk => by
        have q1 := freeTo_mem.1 (List.mem_of_mem_take (show k ∈ (freeA img).take K by rw [← HFR.out.1]; exact hk))
        have q2 := first_le HM.out.1.1 HM.out.1.2
        have q3 := HL.out
        exact ⟨by omega, by omega⟩
      have HLEN : Hid (L.length = K) := Lib.hid (by have := T.out.ol.1; rw [encN_length] at this; omega)
      obtain ⟨A8, c8, rfl, hc8, _⟩ := own_slice T.out.ol
      have HC8 := Lib.hid hc8
      clear hc8
      have cl := T.out.bx.cell
      have hkk : ¬ (K : Int) < (K : Int) := by omega
      go_wp2
      go_loopg [35] K (fun gk s35 wr => ∃ i : Nat, i ≤ K ∧ K - i ≤ gk ∧ s35 = .int .i64 i ∧ Hid (Tq w wr w1.heap.size D g n c1 (.slice A8 K c8) K (tookA img (L.take i)) L))
      case atStart => exact ⟨0, Nat.zero_le _, by omega, rfl, T⟩
      case round =>
        clear T cl cNN
        obtain ⟨i, hi, hgk, rfl, T⟩ := hrel
        by_cases hlt : i < K
        · have hil : (i : Int) < (K : Int) := by omega
          have HLX : Hid (i < L.length) := Lib.hid (by rw [HLEN.out]; exact hlt)
          obtain ⟨b, o, e1, _, g1⟩ := (Reads.of_own T.out.ol).nat hlt
          subst e1
          have hx3 := HLM.out _ (List.mem_of_getElem? (nat_get HLX.out))
          obtain ⟨X, hX⟩ : ∃ X, X = L.getD i 0 := ⟨_, rfl⟩
          rw [← hX] at g1 hx3
          have HX := Lib.hid hX
          have HMC : Hid (MapP (tookA img (L.take i)) ∧ (tookA img (L.take i)).length = n) := Lib.hid (by
            have := took_MapP HM.out (L.take i) (fun k hk => by have := HLM.out k (List.mem_of_mem_take hk); omega)
            exact ⟨this.1, this.2.1.trans HL.out⟩)
          have HNX : Hid (take1A (tookA img (L.take i)) X = tookA img (L.take (i + 1))) := Lib.hid (by rw [nat_take HLX.out, took_snoc, hX])
          clear hX
          have h1n : 1 < n := by omega
          have hXn : X < n := hx3.2
          have cc := T.out.oi.cell 1 h1n
          have hms := HMC.out.1.2
          generalize tookA img (L.take i) = ci at T HMC HNX cc hms
          have ctu := turned_any (blk ci 1) X (by omega) (by omega) (by omega)
          have HS1 : Hid (ci.set 1 (flipA (blk ci 1) X) = turn1A ci X) := Lib.hid rfl
          generalize blk ci 1 = mp at ctu cc hms HS1
          go_wp2_with fail
          refine (ctu _).mono ?_
          rintro e w3 ⟨rfl, hb3⟩
          have T3 := Lib.hid (T.out.step hb3)
          clear T hb3 cc ctu g1
          have cc := T3.out.oi.cell 1 h1n
          have ff := T3.out.oi.free 1
          have T4 := T3.out.put HGZ.out.1 HGZ.out.2 1 (flipA mp X)
          rw [HS1.out] at T4
          have T4 := Lib.hid T4
          go_wp2_with fail
          refine (padded0_any _).mono ?_
          rintro e w5 ⟨rfl, hb5⟩
          have T5 := Lib.hid (T4.out.step hb5)
          clear T3 T4 hb5 cc ff
          have cc := T5.out.oi.cell X hXn
          have ff := T5.out.oi.free X
          have T6 := T5.out.put HGZ.out.1 HGZ.out.2 X zeroB
          rw [show (turn1A ci X).set X zeroB = take1A ci X from rfl, HNX.out] at T6
          have TN := Lib.hid T6
          clear T5 T6
          go_wp2
          go_roundg (K - (i + 1))
          case measure => omega
          case rel => exact ⟨i + 1, by omega, by omega, by go_num, TN⟩
        · have : i = K := by omega
          subst this
          have HT2 : Hid (Tq w wr w1.heap.size D g n c1 (.slice A8 i c8) i (tookA img L) L) := Lib.hid (by rw [← tookA_all img L HLEN.out]; exact T.out)
          clear T
          have cl := HT2.out.bx.cell
          go_wp2
          go_quiet (fail)
          go_wp2
          rw [Exit.noGoto_ret]
          refine ⟨by simp, .inl ⟨_, _, rfl, run_takeDeferred (show (wr.drewN nq).heap[D]? = some (.deferred (some [])) from HT2.out.df), ?_⟩⟩
          have hB2 : Below w1.heap.size (wr.drewN nq) ((wr.drewN nq).putObj D (.deferred none)) := belowF_put (z := w1.heap.size) (Nat.le_refl _) HGZ2.out (wr.drewN nq) _ _ HT2.out.df rfl
          refine ⟨_, results_tmp3 rfl _ _ _, ?_⟩
          rw [HE.out]
          refine ⟨g, n, c1, A8, i, c8, rfl, ?_, h5, ?_, by omega, HC8.out, ?_⟩
          · exact ⟨own_putObj (w := wr.drewN nq) HT2.out.oi.own HT2.out.df _, HT2.out.oi.pos⟩
          · exact .of_own (own_putObj (w := wr.drewN nq) HT2.out.ol HT2.out.df _)
          · exact (below_drewN HT2.out.below nq).trans (hB2.mono (by omega))
    · have HE : Hid (takeA img K = (img, [], 18)) := Lib.hid (by unfold takeA; rw [if_neg (by omega), if_pos (by rw [← hL]; omega)])
      obtain ⟨A8, c8, rfl, _⟩ := own_slice hrow
      have cl := hv.cell
      have hkk : (L.length : Int) < (K : Int) := by omega
      have hR2 := Lib.hid (O1.out.readsB hgw)
      have HB := Lib.hid hB
      have HOW := Lib.hid (O1.out.step hB)
      have HK := Lib.hid hK'
      generalize L.length = q at cl hkk hLl hk
      clear hv hrow hB hL hk hLl hK'
      go_wp2
      rw [Exit.noGoto_ret]
      refine ⟨by simp, .inl ⟨_, _, rfl, run_takeDeferred (show W.heap[D]? = some (.deferred (some [])) from HK.out), ?_⟩⟩
      have hB2 : Below w1.heap.size W (W.putObj D (.deferred none)) := belowF_put (z := w1.heap.size) (Nat.le_refl _) HGZ2.out W _ _ HK.out rfl
      have hB3 := HB.out.trans hB2
      refine ⟨_, results_tmp3 rfl _ _ _, ?_⟩
      rw [HE.out]
      exact ⟨g, n, c1, none, 0, 0, rfl, ⟨own_putObj HOW.out.own HK.out _, HOW.out.pos⟩, h5, Reads.nil, by omega, Nat.le_refl _, B1.out.trans (hB3.mono (by omega))⟩
  case stop =>
    rintro D cc pre W hD ⟨k, hk, hpre⟩ ⟨⟨⟨v, hv, hrow, _⟩, hB⟩, rfl, hlen⟩ hK'
    have HGZ : Hid (g < w1.heap.size ∧ g ≠ D) := Lib.hid (by simp at hD; omega)
    have HGZ2 : Hid (w1.heap.size ≤ D) := Lib.hid (by simp at hD; omega)
    have cNN : W.cell? ⟨w.heap.size, 0, none⟩ = some (.int .i64 (K : Int)) := (hB.cell (p := ⟨w.heap.size, 0, none⟩) hzw).trans cN
    clear hB0 bT bS cN hD
    have hpx : pre <+: freeA img := by rw [hpre]; exact freeTo_pre (by rw [HL.out]; exact hk)
    have hdl : pre.dropLast = (freeA img).take K := by
      rw [List.dropLast_eq_take, hlen, Nat.add_sub_cancel]
      have := List.prefix_iff_eq_take.1 hpx
      rw [this, List.take_take, hlen, Nat.min_eq_left (by omega)]
    have hKl : K ≤ (freeA img).length := by have := hpx.length_le; omega
    obtain ⟨L, hL⟩ : ∃ L, L = pre.dropLast := ⟨_, rfl⟩
    rw [← hL] at hrow hdl
    rw [hlen, Nat.add_sub_cancel] at hrow
    have HFR : Hid (L = (freeA img).take K ∧ K ≤ (freeA img).length) := Lib.hid ⟨hdl, hKl⟩
    have T : Hid (Tq w W w1.heap.size D g n c1 v K (tookA img (L.take 0)) L) := Lib.hid ⟨O1.out.step hB, hrow, hv, hK', bstep B1.out hB⟩
    clear hv hrow hB hL hk hlen hpre hpx hdl hKl hK'
    refine wpIn_wide.2 (wp_exit ?_)
    have hKn : K ≤ 512 := by have := freeTo_len (img := img) img.length; have := HFR.out.2; unfold freeA at this; have := HL.out; omega
    have HE : Hid (takeA img K = (tookA img L, L, 0)) := Lib.hid (by unfold takeA; rw [if_neg (by omega), if_neg (by have := HFR.out.2; omega), Int.toNat_natCast, ← HFR.out.1])
    have HLM : Hid (∀ k ∈ L, 3 ≤ k ∧ k < n) := Lib.hid fun k hk => by
      have q1 := freeTo_mem.1 (List.mem_of_mem_take (show k ∈ (freeA img).take K by rw [← HFR.out.1]; exact hk))
      have q2 := first_le HM.out.1.1 HM.out.1.2
      have q3 := HL.out
      exact ⟨by omega, by omega⟩
    have HLEN : Hid (L.length = K) := Lib.hid (by have := T.out.ol.1; rw [encN_length] at this; omega)
    obtain ⟨A8, c8, rfl, hc8, _⟩ := own_slice T.out.ol
    have HC8 := Lib.hid hc8
    clear hc8
    have cl := T.out.bx.cell
    have hkk : ¬ (K : Int) < (K : Int) := by omega
    go_wp2
    go_loopg [35] K (fun gk s35 wr => ∃ i : Nat, i ≤ K ∧ K - i ≤ gk ∧ s35 = .int .i64 i ∧ Hid (Tq w wr w1.heap.size D g n c1 (.slice A8 K c8) K (tookA img (L.take i)) L))
    case atStart => exact ⟨0, Nat.zero_le _, by omega, rfl, T⟩
    case round =>
      clear T cl cNN
      obtain ⟨i, hi, hgk, rfl, T⟩ := hrel
      by_cases hlt : i < K
      · have hil : (i : Int) < (K : Int) := by omega
        have HLX : Hid (i < L.length) := Lib.hid (by rw [HLEN.out]; exact hlt)
        obtain ⟨b, o, e1, _, g1⟩ := (Reads.of_own T.out.ol).nat hlt
        subst e1
        have hx3 := HLM.out _ (List.mem_of_getElem? (nat_get HLX.out))
        obtain ⟨X, hX⟩ : ∃ X, X = L.getD i 0 := ⟨_, rfl⟩
        rw [← hX] at g1 hx3
        have HX := Lib.hid hX
        have HMC : Hid (MapP (tookA img (L.take i)) ∧ (tookA img (L.take i)).length = n) := Lib.hid (by
          have := took_MapP HM.out (L.take i) (fun k hk => by have := HLM.out k (List.mem_of_mem_take hk); omega)
          exact ⟨this.1, this.2.1.trans HL.out⟩)
        have HNX : Hid (take1A (tookA img (L.take i)) X = tookA img (L.take (i + 1))) := Lib.hid (by rw [nat_take HLX.out, took_snoc, hX])
        clear hX
        have h1n : 1 < n := by omega
        have hXn : X < n := hx3.2
        have cc := T.out.oi.cell 1 h1n
        have hms := HMC.out.1.2
        generalize tookA img (L.take i) = ci at T HMC HNX cc hms
        have ctu := turned_any (blk ci 1) X (by omega) (by omega) (by omega)
        have HS1 : Hid (ci.set 1 (flipA (blk ci 1) X) = turn1A ci X) := Lib.hid rfl
        generalize blk ci 1 = mp at ctu cc hms HS1
        go_wp2_with fail
        refine (ctu _).mono ?_
        rintro e w3 ⟨rfl, hb3⟩
        have T3 := Lib.hid (T.out.step hb3)
        clear T hb3 cc ctu g1
        have cc := T3.out.oi.cell 1 h1n
        have ff := T3.out.oi.free 1
        have T4 := T3.out.put HGZ.out.1 HGZ.out.2 1 (flipA mp X)
        rw [HS1.out] at T4
        have T4 := Lib.hid T4
        go_wp2_with fail
        refine (padded0_any _).mono ?_
        rintro e w5 ⟨rfl, hb5⟩
        have T5 := Lib.hid (T4.out.step hb5)
        clear T3 T4 hb5 cc ff
        have cc := T5.out.oi.cell X hXn
        have ff := T5.out.oi.free X
        have T6 := T5.out.put HGZ.out.1 HGZ.out.2 X zeroB
        rw [show (turn1A ci X).set X zeroB = take1A ci X from rfl, HNX.out] at T6
        have TN := Lib.hid T6
        clear T5 T6
        go_wp2
        go_roundg (K - (i + 1))
        case measure => omega
        case rel => exact ⟨i + 1, by omega, by omega, by go_num, TN⟩
      · have : i = K := by omega
        subst this
        have HT2 : Hid (Tq w wr w1.heap.size D g n c1 (.slice A8 i c8) i (tookA img L) L) := Lib.hid (by rw [← tookA_all img L HLEN.out]; exact T.out)
        clear T
        have cl := HT2.out.bx.cell
        go_wp2
        go_quiet (fail)
        go_wp2
        rw [Exit.noGoto_ret]
        refine ⟨by simp, .inl ⟨_, _, rfl, run_takeDeferred (show (wr.drewN nq).heap[D]? = some (.deferred (some [])) from HT2.out.df), ?_⟩⟩
        have hB2 : Below w1.heap.size (wr.drewN nq) ((wr.drewN nq).putObj D (.deferred none)) := belowF_put (z := w1.heap.size) (Nat.le_refl _) HGZ2.out (wr.drewN nq) _ _ HT2.out.df rfl
        refine ⟨_, results_tmp3 rfl _ _ _, ?_⟩
        rw [HE.out]
        refine ⟨g, n, c1, A8, i, c8, rfl, ?_, h5, ?_, by omega, HC8.out, ?_⟩
        · exact ⟨own_putObj (w := wr.drewN nq) HT2.out.oi.own HT2.out.df _, HT2.out.oi.pos⟩
        · exact .of_own (own_putObj (w := wr.drewN nq) HT2.out.ol HT2.out.df _)
        · exact (below_drewN HT2.out.below nq).trans (hB2.mono (by omega))


set_option maxRecDepth 100000 in
set_option maxHeartbeats 2000000 in
theorem takeO_any (A : Option Addr) (n c : Nat) (img : List ByteArray) (x : Int) (w : World) (h : Reads w w.heap.size 1 A n (encS img)) (hf : MapP img) (hx : x ≤ 9223372036854775807) :
    Calls Try.prog 80 #[.slice A n c, .int .i64 x] w fun e w' => ImgLO w w' (takeA img x).1 (takeA img x).2.1 (takeA img x).2.2 e := by
  by_cases h0 : x < 0
  · have HE : Hid (takeA img x = (img, [], 13)) := Lib.hid (by unfold takeA; rw [if_pos h0])
    have hl := h.lenS
    have h8 : 8 ≤ n := by have := hf.1; omega
    have h5 : n ≤ 512 := by have := hf.1; omega
    have hco := cloneS_any A n c img (w.alloc (.cells #[.int .i64 x] 3)) (h.alloc _) (by omega)
    have cx : ∀ W, Below (w.alloc (.cells #[.int .i64 x] 3)).heap.size (w.alloc (.cells #[.int .i64 x] 3)) W → W.cell? ⟨w.heap.size, 0, none⟩ = some (.int .i64 x) := fun W hW => by
      have := hW.cell (p := ⟨w.heap.size, 0, none⟩) (by simp)
      rw [this]
      go_simp
    clear h hf hl
    go_enter Try.func80, Try.ntmps80
    go_wp2
    go_step3
    go_wp2_with fail
    refine hco.mono ?_
    rintro e w1 ⟨A1, c1, rfl, ho1, hb1⟩
    have c1x := cx w1 hb1
    obtain ⟨g1, rfl, hOO⟩ := OwI.of ho1 (by omega)
    have HR := Lib.hid (And.intro (show OwI w1 w.heap.size g1 n c1 img from ⟨own_base hOO.own (by simp), hOO.pos⟩) (((Below.refl _ w).alloc (Nat.le_refl _) (.cells #[.int .i64 x] 3)).trans (hb1.mono (by simp))))
    clear ho1 hb1 hco cx hOO
    go_wp2
    rw [Exit.noGoto_ret]
    go_ret3
    rw [HE.out]
    exact ⟨g1, n, c1, none, 0, 0, rfl, HR.out.1, h5, Reads.nil, by omega, Nat.le_refl _, HR.out.2⟩
  · obtain ⟨K, rfl⟩ : ∃ K : Nat, x = K := ⟨x.toNat, by omega⟩
    exact takeO_in A n c img K w h hf (by omega)

end Go.Proofs.Ytcfmpmcdfllibaa
