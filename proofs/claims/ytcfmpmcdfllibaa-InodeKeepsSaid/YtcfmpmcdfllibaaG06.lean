/-
  The document's own block 0, and its empty image.
-/
import Derived.Test.YtcfmpmcdfllibaaG05
import Derived.Laws.IdiomCopy
import Derived.Lib.LazyBuf
import Derived.Deep.QuietTactic
namespace Go.Proofs.Ytcfmpmcdfllibaa
open Go.RowKit

/-- copy(dst, s), s a text of whatever length: as many bytes as fit. -/
theorem run_copy_text {P : Program} (w : World) (dT sT ty elem : TypeId) (b o dLen dCap : Nat) (t : ByteArray) (hu : P.underlying dT = some (.slice elem)) (hz : ∀ w, (Go.sizeOf elem).run P w = .ok 1 w) (n : Nat) (hn : Nat.min t.size dLen = n)
    (hc : ∀ j, j < n → (w.cell? ⟨b, o + j, none⟩).isSome = true) (hf : ∀ j, j < n → w.frozen? ⟨b, o + j, none⟩ = false) :
    (Builtin.copy_ #[dT, sT] ty #[.slice (some ⟨b, o, none⟩) dLen dCap, .string t]).run P w = .ok (goInt n) (w.setCells b o ((t.data.toList.take n).map fun x => Value.int .u8 (x.toNat : Int))) := by
  have hsz : t.data.toList.length = t.size := by simp
  have hnt : n ≤ t.size := by rw [← hn]; exact Nat.min_le_left _ _
  have hl : ((t.data.toList.take n).map fun x => Value.int .u8 (x.toNat : Int)).length = n := by rw [List.length_map, List.length_take, hsz]; omega
  have hst := run_storeCells_cells (P := P) b o ((t.data.toList.take n).map fun x => Value.int .u8 (x.toNat : Int)) 0 w (by rw [hl]; simpa using hc) (by rw [hl]; simpa using hf) (by
    intro v hv
    obtain ⟨x, _, rfl⟩ := List.mem_map.1 hv
    rfl)
  simp [Builtin.copy_, run_underlying hu, Builtin.lenOf, Builtin.firstCells, hz, hn]
  rw [List.map_take] at hst
  rw [hst]
  rfl

theorem infoUA : (Try.prog.info? 5).map (fun i => (i.zero, i.size, i.bytes)) = some (some (.int .u8 0), 1, 1) := by kernel_rfl
theorem made_byt {w w1 : World} {g : Nat} (ho : w1.ownsRow w.heap.size 5 1 (.slice (some ⟨g, 0, none⟩) 128 128) 128 (madeCells #[.int .u8 0] 128).toList) : Byt w1 g (List.replicate 128 0) := by
  rw [toList_madeCells_one] at ho
  exact Byt.of_own (l := List.replicate 128 0) (by simpa using ho) (by omega)
theorem mkB_zeros : mkB (List.replicate 128 0) = zeroB := by decide +kernel
theorem mkB_super (n : Nat) (a b c d : UInt8) (h1 : a = UInt8.ofNat (n / 256)) (h2 : b = UInt8.ofNat n) (h3 : c = UInt8.ofNat (cntA n / 256)) (h4 : d = UInt8.ofNat (cntA n)) :
    mkB (((((((((List.replicate 128 (0 : UInt8)).set 0 65).set 1 70).set 2 83).set 3 49).set 4 a).set 5 b).set 6 c).set 7 d) = superB n := by
  subst h1; subst h2; subst h3; subst h4
  rfl
theorem copy_text4 {P : Program} (w : World) (dT sT ty elem : TypeId) (g : Nat) (hu : P.underlying dT = some (.slice elem)) (hz : ∀ w, (Go.sizeOf elem).run P w = .ok 1 w) (h : Byt w g (List.replicate 128 0)) :
    (Builtin.copy_ #[dT, sT] ty #[.slice (some ⟨g, 0, none⟩) 128 128, .string ⟨#[65, 70, 83, 49]⟩]).run P w = .ok (goInt 4) ((((w.setCell ⟨g, 0, none⟩ (.int .u8 65)).setCell ⟨g, 1, none⟩ (.int .u8 70)).setCell ⟨g, 2, none⟩ (.int .u8 83)).setCell ⟨g, 3, none⟩ (.int .u8 49)) :=
  run_copy_text w dT sT ty elem g 0 128 128 ⟨#[65, 70, 83, 49]⟩ hu hz 4 rfl (fun j hj => by rw [Nat.zero_add, h.cell j (by simp; omega)]; rfl) (fun j hj => by rw [Nat.zero_add]; exact h.free j (by simp; omega))

set_option maxRecDepth 100000 in
set_option maxHeartbeats 2000000 in
theorem refSuper_any (n : Nat) (w : World) (hn : n ≤ 512) : Calls Try.prog 64 #[.int .i64 n] w fun e w' => e = .returned (.string (superB n)) ∧ Below w.heap.size w w' := by
  obtain ⟨i0, hi0, hz0, hz1, hz2⟩ := info_parts infoUA
  have ci := fun W => refCount_any n (by unfold maxLen; omega) W
  have hk : cntA n ≤ 128 := by unfold cntA; omega
  have HM := Lib.hid (fun a b c d => mkB_super n a b c d)
  generalize cntA n = k at ci hk HM
  go_enter Try.func64, Try.ntmps64
  go_wp2_with (at_make; refine wpList_make_full _ rfl _ _ 63 rfl w.heap.size 5 i0 _ 1 Try.underlying63 hi0 hz0 hz1 .i64 .i64 128 128 128 rfl rfl rfl rfl ?_ ?_ ?_ ?_)
  · rw [hz2]; omega
  · simp only [maxLen]; omega
  · exact Nat.le_refl _
  intro w1 ho1 hg1
  have hb1 : Below w.heap.size w w1 := (Below.refl _ _).grown hg1 (Nat.le_refl _) (by intro k hk; cases hk)
  have Y1 := made_byt ho1
  have hcp := copy_text4 (P := Try.prog) w1 63 9 3 5 w.heap.size Try.underlying63 Try.sizeOf5 Y1
  have hb2 : Below w.heap.size w ((((w1.setCell ⟨w.heap.size, 0, none⟩ (.int .u8 65)).setCell ⟨w.heap.size, 1, none⟩ (.int .u8 70)).setCell ⟨w.heap.size, 2, none⟩ (.int .u8 83)).setCell ⟨w.heap.size, 3, none⟩ (.int .u8 49)) := (((hb1.setCell (Nat.le_refl _) _).setCell (Nat.le_refl _) _).setCell (Nat.le_refl _) _).setCell (Nat.le_refl _) _
  have Y2 := (((Y1.set 0 65).set 1 70).set 2 83).set 3 49
  have Y2 : Byt ((((w1.setCell ⟨w.heap.size, 0, none⟩ (.int .u8 65)).setCell ⟨w.heap.size, 1, none⟩ (.int .u8 70)).setCell ⟨w.heap.size, 2, none⟩ (.int .u8 83)).setCell ⟨w.heap.size, 3, none⟩ (.int .u8 49)) w.heap.size _ := Y2
  generalize (((w1.setCell ⟨w.heap.size, 0, none⟩ (.int .u8 65)).setCell ⟨w.heap.size, 1, none⟩ (.int .u8 70)).setCell ⟨w.heap.size, 2, none⟩ (.int .u8 83)).setCell ⟨w.heap.size, 3, none⟩ (.int .u8 49) = w2 at hcp Y2 hb2
  have hl2 : (((((List.replicate 128 (0 : UInt8)).set 0 65).set 1 70).set 2 83).set 3 49).length = 128 := rfl
  obtain ⟨v4, c4⟩ : ∃ v, w2.cell? ⟨w.heap.size, 4, none⟩ = some v := ⟨_, Y2.cell 4 (by rw [hl2]; omega)⟩
  obtain ⟨v5, c5⟩ : ∃ v, w2.cell? ⟨w.heap.size, 5, none⟩ = some v := ⟨_, Y2.cell 5 (by rw [hl2]; omega)⟩
  obtain ⟨v6, c6⟩ : ∃ v, w2.cell? ⟨w.heap.size, 6, none⟩ = some v := ⟨_, Y2.cell 6 (by rw [hl2]; omega)⟩
  obtain ⟨v7, c7⟩ : ∃ v, w2.cell? ⟨w.heap.size, 7, none⟩ = some v := ⟨_, Y2.cell 7 (by rw [hl2]; omega)⟩
  have f4 := Y2.free 4 (by rw [hl2]; omega)
  have f5 := Y2.free 5 (by rw [hl2]; omega)
  have f6 := Y2.free 6 (by rw [hl2]; omega)
  have f7 := Y2.free 7 (by rw [hl2]; omega)
  have Y3 := (((Y2.set 4 (UInt8.ofNat (n / 256))).set 5 (UInt8.ofNat n)).set 6 (UInt8.ofNat (k / 256))).set 7 (UInt8.ofNat k)
  rw [show ((UInt8.ofNat (n / 256)).toNat : Int) = (n : Int) / 256 by rw [← byte_hi]; omega, show ((UInt8.ofNat n).toNat : Int) = (n : Int) % 256 from (byte_lo n).symm, show ((UInt8.ofNat (k / 256)).toNat : Int) = (k : Int) / 256 by rw [← byte_hi]; omega, show ((UInt8.ofNat k).toNat : Int) = (k : Int) % 256 from (byte_lo k).symm] at Y3
  have hcv := Y3.conv (P := Try.prog) Try.underlying63 Try.underlying5 Try.underlying9 128 128 (by simp)
  rw [HM.out _ _ _ _ rfl rfl rfl rfl] at hcv
  have hb3 : Below w.heap.size w ((((w2.setCell ⟨w.heap.size, 4, none⟩ (.int .u8 ((n : Int) / 256))).setCell ⟨w.heap.size, 5, none⟩ (.int .u8 ((n : Int) % 256))).setCell ⟨w.heap.size, 6, none⟩ (.int .u8 ((k : Int) / 256))).setCell ⟨w.heap.size, 7, none⟩ (.int .u8 ((k : Int) % 256))) := (((hb2.setCell (Nat.le_refl _) _).setCell (Nat.le_refl _) _).setCell (Nat.le_refl _) _).setCell (Nat.le_refl _) _
  have HY := Lib.hid hb3
  clear hb1 ho1 hg1 Y1 Y2 Y3 hb2 hb3 hl2 HM
  go_wp2_with (go_at_call 65; refine (ci _).mono ?_; rintro e w3 ⟨rfl, rfl⟩)
  go_ret
  exact ⟨rfl, HY.out⟩

set_option maxRecDepth 100000 in
set_option maxHeartbeats 2000000 in
theorem refFit_anyA (A : Option Addr) (n c : Nat) (img : List ByteArray) (w : World) (h : Reads w w.heap.size 1 A n (encS img)) (hn : n * 16 ≤ 140737488355328) :
    Calls Try.prog 30 #[.slice A n c] w fun e w' => e = .returned (.bool (decide (FitA img))) ∧ Below w.heap.size w w' := by
  have hmx : Try.prog.follows .mixedOrders = true := by kernel_rfl
  have hl := h.lenS
  have H := Lib.hid h
  have HL := Lib.hid hl
  by_cases hx1 : 8 ≤ n
  · by_cases hx2 : n ≤ 512
    · obtain ⟨b0, o0, rfl, hb0, g0⟩ := h.str (k := 0) (by omega)
      rw [Nat.add_zero] at g0
      have cs := fun W => refSuper_any n W hx2
      obtain ⟨F, hF⟩ : ∃ F, F = firstA n := ⟨_, rfl⟩
      have cf := fun W => refFirst_any (some ⟨b0, o0, none⟩) n c (by unfold maxLen; omega) W
      rw [← hF] at cf
      have HF : Hid (F = firstA img.length) := Lib.hid (by rw [hl]; exact hF)
      have hF2 : F ≤ 34 := by have := first_le hx1 hx2; omega
      have h0n : 0 < n := by omega
      have HZ : Hid (superB n = superB img.length) := Lib.hid (by rw [hl])
      generalize superB n = z at cs HZ
      clear h hl hF
      go_enter Try.func30, Try.ntmps30
      go_wp2
      go_loopg [3] n (fun gk s3 wr => ∃ i : Nat, i ≤ n ∧ n - i ≤ gk ∧ s3 = .int .i64 i ∧ w = wr ∧ Hid (∀ k, k < i → (blk img k).size = 128))
      case atStart => exact ⟨0, Nat.zero_le _, by omega, rfl, rfl, Lib.hid fun k hk => absurd hk (Nat.not_lt_zero _)⟩
      case round =>
        obtain ⟨i, hi, hgk, rfl, rfl, J⟩ := hrel
        by_cases hlt : i < n
        · have hil : (i : Int) < (n : Int) := by omega
          obtain ⟨b1, o1, e1, _, g1⟩ := H.out.str hlt
          injection e1 with e1; injection e1 with e1 e2; subst e1; subst e2
          by_cases hs : (blk img i).size = 128
          · have f1 : (((blk img i).size : Int) != 128) = false := by rw [hs]; rfl
            have JN : Hid (∀ k, k < i + 1 → (blk img k).size = 128) := Lib.hid fun k hk => by
              by_cases e : k = i
              · rw [e]; exact hs
              · exact J.out k (by omega)
            clear hs
            go_wp2
            go_roundg (n - (i + 1))
            case measure => omega
            case rel => exact ⟨i + 1, by omega, by omega, by go_num, rfl, JN⟩
          · have f1 : (((blk img i).size : Int) != 128) = true := by simp; omega
            have HNO : Hid (decide (FitA img) = false) := Lib.hid (fitA_no fun hP => hs (hP.2.1 _ (List.mem_of_getElem? (blk_get (by rw [HL.out]; exact hlt)))))
            clear hs
            go_wp2
            go_ret
            rw [HNO.out]
            exact ⟨rfl, Below.refl _ _⟩
        · have : i = n := by omega
          subst this
          obtain ⟨b1, o1, e1, hb1, g1⟩ := H.out.str (k := 1) (by omega)
          injection e1 with e1; injection e1 with e1 e2; subst e1; subst e2
          have hm := J.out 1 (by omega)
          obtain ⟨m, hm1⟩ : ∃ m, m = blk img 1 := ⟨_, rfl⟩
          rw [← hm1] at g1 hm
          have HMM := Lib.hid hm1
          have h1n : 1 < i := by omega
          obtain ⟨s0, hs0⟩ : ∃ s, s = blk img 0 := ⟨_, rfl⟩
          rw [← hs0] at g0
          have HS0 := Lib.hid hs0
          have HG1 := Lib.hid g1
          obtain ⟨q, hq⟩ : ∃ q : Bool, q = (s0.toList == z.toList) := ⟨_, rfl⟩
          have HQ := Lib.hid hq
          have t0 : (!(s0.toList == z.toList)) = !q := by rw [hq]
          clear hm1 hlt hs0 hq g1
          cases q with
          | true =>
            have t0 : (!(s0.toList == z.toList)) = false := t0
            go_wp2
            refine regionA (w0 := w) (Below.refl _ _) hmx (by kernel_rfl) ?_
            repeat (first
              | go_big_quiet_skip
              | (go_big_quiet_want; go_big_quiet_op; first
                  | go_big_quiet_on
                  | (refine ⟨_, fun _ _ => rfl, ?_⟩; go_big_quiet_on)
                  | (refine ⟨.string s0, fun w5 hw5 => ?_, ?_⟩
                     · rw [(hw5.cell (p := ⟨b0, o0, none⟩) hb0).trans g0]; exact ⟨rfl, rfl⟩
                     go_big_quiet_on)
                  | (apply Exists.intro
                     refine ⟨fun w5 hw5 => ?_, ?_⟩
                     · (refine (cs _).mono ?_; rintro e w6 ⟨rfl, hbx⟩; exact ⟨rfl, bstep hw5 hbx⟩)
                     go_big_quiet_on)))
            refine wpQuiet_nil ?_
            intro w7 hw7
            have HG2 : Hid (w7.cell? ⟨b0, o0 + 1, none⟩ = some (.string m)) := Lib.hid ((hw7.cell (p := ⟨b0, o0 + 1, none⟩) hb0).trans HG1.out)
            have g1 := HG2.out
            have HB7 := Lib.hid hw7
            clear hw7 g0
            go_wp2
            go_loopg [4] 1024 (fun gk s4 wr => ∃ j : Nat, j ≤ 1024 ∧ 1024 - j ≤ gk ∧ s4 = .int .i64 j ∧ w7 = wr ∧ Hid (∀ b, b < j → CondA img b))
            case atStart => exact ⟨0, Nat.zero_le _, by omega, rfl, rfl, Lib.hid fun k hk => absurd hk (Nat.not_lt_zero _)⟩
            case round =>
              obtain ⟨j, hj, hgk, rfl, rfl, J2⟩ := hrel
              by_cases hlt : j < 1024
              · have hjl : (j : Int) < 1024 := by omega
                have hjm : j / 8 < m.size := by omega
                have bm := bit_mod m j hjm
                have bn := bit_tmod m j hjm
                obtain ⟨t, ht⟩ : ∃ t, t = bitA m j := ⟨_, rfl⟩
                rw [← ht] at bm bn
                have HT : Hid (bitA (blk img 1) j = t) := Lib.hid (by rw [← HMM.out, ht])
                clear ht
                have YES : CondA img j → Hid (∀ b, b < j + 1 → CondA img b) := fun hc => Lib.hid fun b hb => by
                  by_cases e : b = j
                  · rw [e]; exact hc
                  · exact J2.out b (by omega)
                have NO : ¬ CondA img j → Hid (decide (FitA img) = false) := fun hc => Lib.hid (fitA_no fun hP => hc (hP.2.2.2 j hlt))
                have HFn : F ≤ i := by have := first_le hx1 hx2; have := HF.out; rw [HL.out] at this; omega
                by_cases hjF : j < F
                · have d1 : (j : Int) < (F : Int) := by omega
                  have d2 : ¬ (i : Int) ≤ (j : Int) := by omega
                  cases t with
                  | true =>
                    have JN := YES ⟨fun _ => HT.out, fun h => absurd h (by rw [HL.out]; omega)⟩
                    clear YES NO
                    go_wp2_with (go_at_call 36; refine (cf _).mono ?_; rintro e w8 ⟨rfl, rfl⟩)
                    go_roundg (1024 - (j + 1))
                    case measure => omega
                    case rel => exact ⟨j + 1, by omega, by omega, by go_num, rfl, JN⟩
                  | false =>
                    have HNO := NO (fun h => by have := h.1 (by rw [← HF.out]; exact hjF); rw [HT.out] at this; cases this)
                    clear YES NO
                    go_wp2_with (go_at_call 36; refine (cf _).mono ?_; rintro e w8 ⟨rfl, rfl⟩)
                    go_ret
                    rw [HNO.out]
                    exact ⟨rfl, HB7.out⟩
                · have d1 : ¬ (j : Int) < (F : Int) := by omega
                  by_cases hjn : i ≤ j
                  · have d2 : (i : Int) ≤ (j : Int) := by omega
                    cases t with
                    | true =>
                      have HNO := NO (fun h => by have := h.2 (by rw [HL.out]; exact hjn); rw [HT.out] at this; cases this)
                      clear YES NO
                      go_wp2_with (go_at_call 36; refine (cf _).mono ?_; rintro e w8 ⟨rfl, rfl⟩)
                      go_ret
                      rw [HNO.out]
                      exact ⟨rfl, HB7.out⟩
                    | false =>
                      have JN := YES ⟨fun h => absurd h (by rw [← HF.out]; omega), fun _ => HT.out⟩
                      clear YES NO
                      go_wp2_with (go_at_call 36; refine (cf _).mono ?_; rintro e w8 ⟨rfl, rfl⟩)
                      go_roundg (1024 - (j + 1))
                      case measure => omega
                      case rel => exact ⟨j + 1, by omega, by omega, by go_num, rfl, JN⟩
                  · have d2 : ¬ (i : Int) ≤ (j : Int) := by omega
                    have JN := YES ⟨fun h => absurd h (by rw [← HF.out]; omega), fun h => absurd h (by rw [HL.out]; exact hjn)⟩
                    clear YES NO
                    cases t with
                    | true =>
                      go_wp2_with (go_at_call 36; refine (cf _).mono ?_; rintro e w8 ⟨rfl, rfl⟩)
                      go_roundg (1024 - (j + 1))
                      case measure => omega
                      case rel => exact ⟨j + 1, by omega, by omega, by go_num, rfl, JN⟩
                    | false =>
                      go_wp2_with (go_at_call 36; refine (cf _).mono ?_; rintro e w8 ⟨rfl, rfl⟩)
                      go_roundg (1024 - (j + 1))
                      case measure => omega
                      case rel => exact ⟨j + 1, by omega, by omega, by go_num, rfl, JN⟩
              · have : j = 1024 := by omega
                subst this
                have HYES : Hid (decide (FitA img) = true) := Lib.hid (decide_eq_true ⟨by rw [HL.out]; exact ⟨hx1, hx2⟩, fun s hs => by
                  obtain ⟨k, hk, e⟩ := List.mem_iff_getElem.1 hs
                  have h2 := blk_get hk
                  rw [List.getElem?_eq_getElem hk, e] at h2
                  injection h2 with h2
                  rw [h2]
                  exact J.out k (by rw [← HL.out]; exact hk), by rw [← HS0.out, ← HZ.out]; exact bytes_inj (by simpa using HQ.out.symm), J2.out⟩)
                go_wp2
                go_ret
                rw [HYES.out]
                exact ⟨rfl, HB7.out⟩
          | false =>
            have t0 : (!(s0.toList == z.toList)) = true := t0
            have HNO : Hid (decide (FitA img) = false) := Lib.hid (fitA_no fun hP => by
              have h1 := HQ.out
              rw [HS0.out, hP.2.2.1, HZ.out] at h1
              simp at h1)
            go_wp2
            refine regionA (w0 := w) (Below.refl _ _) hmx (by kernel_rfl) ?_
            repeat (first
              | go_big_quiet_skip
              | (go_big_quiet_want; go_big_quiet_op; first
                  | go_big_quiet_on
                  | (refine ⟨_, fun _ _ => rfl, ?_⟩; go_big_quiet_on)
                  | (refine ⟨.string s0, fun w5 hw5 => ?_, ?_⟩
                     · rw [(hw5.cell (p := ⟨b0, o0, none⟩) hb0).trans g0]; exact ⟨rfl, rfl⟩
                     go_big_quiet_on)
                  | (apply Exists.intro
                     refine ⟨fun w5 hw5 => ?_, ?_⟩
                     · (refine (cs _).mono ?_; rintro e w6 ⟨rfl, hbx⟩; exact ⟨rfl, bstep hw5 hbx⟩)
                     go_big_quiet_on)))
            refine wpQuiet_nil ?_
            intro w7 hw7
            go_wp2
            go_ret
            rw [HNO.out]
            exact ⟨rfl, hw7⟩
    · have HNO : Hid (decide (FitA img) = false) := Lib.hid (fitA_no fun hP => hx2 (by rw [← hl]; exact hP.1.2))
      have t1 : (512 : Int) < (n : Int) := by omega
      clear h hl
      go_enter Try.func30, Try.ntmps30
      go_wp2
      go_ret
      rw [HNO.out]
      exact ⟨rfl, Below.refl _ _⟩
  · have HNO : Hid (decide (FitA img) = false) := Lib.hid (fitA_no fun hP => hx1 (by rw [← hl]; exact hP.1.1))
    have t1 : (n : Int) < 8 := by omega
    clear h hl
    go_enter Try.func30, Try.ntmps30
    go_wp2
    go_ret
    rw [HNO.out]
    exact ⟨rfl, Below.refl _ _⟩

end Go.Proofs.Ytcfmpmcdfllibaa

/-
  The document's own empty image; blocks taken and given back.
-/
namespace Go.Proofs.Ytcfmpmcdfllibaa
open Go.RowKit

theorem repl_succ (n : Nat) (s : ByteArray) : List.replicate n s ++ [s] = List.replicate (n + 1) s := by
  rw [List.replicate_succ']
theorem head_zeros {n : Nat} (hn : 8 ≤ n) : superB n :: List.replicate (n - 1) zeroB = makeL n 0 := by
  rw [makeL_zero (by omega)]
  obtain ⟨k, rfl⟩ : ∃ k, n = k + 1 := ⟨n - 1, by omega⟩
  rw [List.replicate_succ]; rfl
theorem makeL_MapP {n k : Nat} (h8 : 8 ≤ n) (h5 : n ≤ 512) : MapP (makeL n k) := ⟨by rw [makeL_length]; exact ⟨h8, h5⟩, by rw [makeL_map (by omega), mapL_size]⟩

/-- An image is told, and an error. -/
def ImgsA (w w' : World) (img : List ByteArray) (code : Int) (e : Ending) : Prop := ∃ A n c, e = .returned (.tuple #[.slice A n c, .int .i64 code]) ∧ Reads w' w'.heap.size 1 A n (encS img) ∧ n ≤ 512 ∧ Below w.heap.size w w'
end Go.Proofs.Ytcfmpmcdfllibaa

/-
  Blocks taken and given back, as the document tells it.
-/
namespace Go.Proofs.Ytcfmpmcdfllibaa
open Go.RowKit

/-- While blocks are taken: the image of the call's own, the list of numbers of the call's own. -/
structure Tk (w wr : World) (g n c : Nat) (img : List ByteArray) (A : Option Addr) (k ca : Nat) (L : List Nat) : Prop where
  oi : OwI wr w.heap.size g n c img
  ol : wr.ownsRow w.heap.size 3 1 (.slice A k ca) k (encN L)
  below : Below w.heap.size w wr
section
variable {w wr w' : World} {g n c k ca : Nat} {img : List ByteArray} {A : Option Addr} {L : List Nat}
theorem Tk.step (h : Tk w wr g n c img A k ca L) (hb : Below wr.heap.size wr w') : Tk w w' g n c img A k ca L := ⟨h.oi.step hb, own_below h.ol hb, bstep h.below hb⟩
theorem Tk.len (h : Tk w wr g n c img A k ca L) : L.length = k := by have := h.ol.1; rw [encN_length] at this; omega
theorem Tk.app (h : Tk w wr g n c img A k ca L) (o : Obj) {A6 : Option Addr} {k6 c6 i : Nat} (ho : w'.ownsRow w.heap.size 3 1 (.slice A6 k6 c6) k6 (encN L ++ [.int .i64 (i : Int)])) (hg : (wr.alloc o).grownBy w' (Value.slice A k ca).ownBlock) : Tk w w' g n c img A6 k6 c6 (L ++ [i]) :=
  ⟨⟨own_grown (own_alloc h.oi.own o) hg (fun q e1 e2 => own_apart h.oi.own h.ol (by decide) q e1 e2), h.oi.pos⟩, by rw [encN_app]; exact ho, (h.below.alloc h.below.size o).grown hg (by have := h.below.size; simp; omega) (fun q hq => own_row_ge h.ol q hq)⟩
theorem Tk.put (h : Tk w wr g n c img A k ca L) (j : Nat) (s : ByteArray) : Tk w (wr.setCell ⟨g, j, none⟩ (.string s)) g n c (img.set j s) A k ca L :=
  ⟨h.oi.set j s, own_grown h.ol (h.oi.own.stored j (.string s)).2 (fun q e1 e2 => own_apart h.oi.own h.ol (by decide) q e2 e1), h.oi.below_set j _ (Nat.le_refl _) h.below⟩
theorem Tk.image (h : Tk w wr g n c img A k ca L) (hb : Below wr.heap.size wr w') {g2 c2 : Nat} {img2 : List ByteArray} (ho : OwI w' wr.heap.size g2 n c2 img2) : Tk w w' g2 n c2 img2 A k ca L :=
  ⟨⟨own_base ho.own h.below.size, ho.pos⟩, own_below h.ol hb, bstep h.below hb⟩
end
/-- An image is told, numbers, and an error. -/
def ImgL (w w' : World) (img : List ByteArray) (l : List Nat) (code : Int) (e : Ending) : Prop := ∃ A n c A2 k c2, e = .returned (.tuple #[.slice A n c, .slice A2 k c2, .int .i64 code]) ∧ Reads w' w'.heap.size 1 A n (encS img) ∧ n ≤ 512 ∧ Reads w' w'.heap.size 1 A2 k (encN l) ∧ k ≤ 512 ∧ Below w.heap.size w w'

end Go.Proofs.Ytcfmpmcdfllibaa

/-
  Blocks given back: as the document tells it, and as the program does.
-/
namespace Go.Proofs.Ytcfmpmcdfllibaa
open Go.RowKit

def encI (l : List Int) : List Value := l.map (Value.int .i64)
theorem encI_length (l : List Int) : (encI l).length = l.length := by simp [encI]
theorem encI_nat (l : List Nat) : encI (l.map fun k : Nat => (k : Int)) = encN l := by simp [encI, encN]
theorem encI_get {l : List Int} {k : Nat} (hk : k < l.length) : (encI l)[k]? = some (.int .i64 (l.getD k 0)) := by simp [encI, hk]
theorem Reads.lenI {w : World} {B n : Nat} {A : Option Addr} {l : List Int} (h : Reads w B 1 A n (encI l)) : l.length = n := by have := h.1; rw [encI_length] at this; omega
theorem Reads.int {w : World} {B n : Nat} {A : Option Addr} {l : List Int} (h : Reads w B 1 A n (encI l)) {k : Nat} (hk : k < n) : ∃ b o, A = some ⟨b, o, none⟩ ∧ b < B ∧ w.cell? ⟨b, o + k, none⟩ = some (.int .i64 (l.getD k 0)) := by
  obtain ⟨b, o, e, hb, hc⟩ := h.2 (by omega)
  exact ⟨b, o, e, hb, hc k _ (encI_get (by rw [h.lenI]; exact hk))⟩
theorem int_get {l : List Int} {k : Nat} (hk : k < l.length) : l[k]? = some (l.getD k 0) := by simp [hk]
theorem int_mem {l : List Int} {k : Nat} (hk : k < l.length) : l.getD k 0 ∈ l := List.mem_of_getElem? (int_get hk)
theorem int_take {l : List Int} {k : Nat} (hk : k < l.length) : l.take (k + 1) = l.take k ++ [l.getD k 0] := by
  rw [List.take_add_one, int_get hk]; rfl
theorem gave_app : ∀ (a b : List Int) (c : List ByteArray), gaveA c (a ++ b) = (gaveA c a).bind fun c => gaveA c b
  | [], b, c => rfl
  | x :: a, b, c => by
    rw [List.cons_append, gaveA, gaveA]
    by_cases h : bitA (blk c 1) x.toNat = true
    · rw [if_pos h, if_pos h, gave_app a b]
    · rw [if_neg h, if_neg h]; rfl
theorem gave_yes {img c : List ByteArray} {l : List Int} {i : Nat} (h : gaveA img (l.take i) = some c) (hi : i < l.length) (hb : bitA (blk c 1) (l.getD i 0).toNat = true) : gaveA img (l.take (i + 1)) = some (turn1A c (l.getD i 0).toNat) := by
  rw [int_take hi, gave_app, h]
  show gaveA c [l.getD i 0] = _
  rw [gaveA, if_pos hb]; rfl
theorem gave_no {img c : List ByteArray} {l : List Int} {i : Nat} (h : gaveA img (l.take i) = some c) (hi : i < l.length) (hb : bitA (blk c 1) (l.getD i 0).toNat = false) : gaveA img l = none := by
  rw [← List.take_append_drop (i + 1) l, gave_app, int_take hi, gave_app, h]
  show ((gaveA c [l.getD i 0]).bind _) = none
  rw [gaveA, if_neg (by rw [hb]; decide)]; rfl
theorem gave_MapP : ∀ (l : List Int) {img c : List ByteArray}, MapP img → gaveA img l = some c → MapP c ∧ c.length = img.length
  | [], img, c, hm, h => by rw [gaveA] at h; injection h with h; subst h; exact ⟨hm, rfl⟩
  | x :: l, img, c, hm, h => by
    rw [gaveA] at h
    by_cases hb : bitA (blk img 1) x.toNat = true
    · rw [if_pos hb] at h
      have := gave_MapP l (turn1_MapP hm _) h
      exact ⟨this.1, by rw [this.2, turn1_length]⟩
    · rw [if_neg hb] at h; cases h
theorem giveA_out {img : List ByteArray} {l : List Int} {x : Int} (hx : x ∈ l) (ho : outA img x) : giveA img l = (img, 15) := by unfold giveA; rw [if_pos ⟨x, hx, ho⟩]
theorem giveA_in {img : List ByteArray} {l : List Int} (h : ∀ x ∈ l, ¬ outA img x) : giveA img l = match gaveA img l with | none => (img, 20) | some c => (c, 0) := by
  unfold giveA; rw [if_neg (fun ⟨x, hx, ho⟩ => h x hx ho)]; rfl

set_option maxRecDepth 100000 in
set_option maxHeartbeats 4000000 in
theorem giveA_any (A B : Option Addr) (n c m cm : Nat) (img : List ByteArray) (l : List Int) (w : World) (h : Reads w w.heap.size 1 A n (encS img)) (hf : MapP img) (hB : Reads w w.heap.size 1 B m (encI l)) (hm : m ≤ 17592186044416) :
    Calls Try.prog 50 #[.slice A n c, .slice B m cm] w fun e w' => ImgsA w w' (giveA img l).1 (giveA img l).2 e := by
  have hl := h.lenS
  have hlm := hB.lenI
  have h8 : 8 ≤ n := by have := hf.1; omega
  have h5 : n ≤ 512 := by have := hf.1; omega
  obtain ⟨F, hF⟩ : ∃ F, F = firstA n := ⟨_, rfl⟩
  have cf := fun A c W => first_any A n c (by unfold maxLen; omega) W
  have co := fun W hW => cloneS_any A n c img W hW (by omega)
  rw [← hF] at cf
  have HO : Hid (∀ x, outA img x ↔ (x < (F : Int) ∨ (n : Int) ≤ x)) := Lib.hid (fun x => by unfold outA; rw [hl, hF])
  have hF34 : F ≤ 34 := by have := first_le h8 h5; omega
  have HL := Lib.hid (And.intro hl hlm)
  have HM := Lib.hid hf
  have H := Lib.hid (And.intro h hB)
  have ct := fun (A : Option Addr) (c : Nat) (ci : List ByteArray) (i : Int) W hW hc => takenA_any A n c ci i W hW hc
  have cm := fun (A : Option Addr) (c : Nat) (ci : List ByteArray) W hW hc => mapped_any A n c ci W hW hc
  clear h hB hl hlm hF hf
  go_enter Try.func50, Try.ntmps50
  go_wp2_with fail
  refine (co _ H.out.1).mono ?_
  rintro e w1 ⟨A1, c1, rfl, ho1, hb1⟩
  obtain ⟨g, rfl, hO1⟩ := OwI.of ho1 (by omega)
  have J1 := Lib.hid (And.intro hO1 hb1)
  have HA := H
  have H1 := Lib.hid (And.intro (H.out.1.step hb1) (H.out.2.step hb1))
  clear ho1 hb1 hO1
  go_wp2
  go_loopg [15] m (fun gk s15 wr => ∃ i : Nat, i ≤ m ∧ m - i ≤ gk ∧ s15 = .int .i64 i ∧ w1 = wr ∧ Hid (∀ k, k < i → ¬ outA img (l.getD k 0)))
  case atStart => exact ⟨0, Nat.zero_le _, by omega, rfl, rfl, Lib.hid fun k hk => absurd hk (Nat.not_lt_zero _)⟩
  case round =>
    obtain ⟨i, hi, hgk, rfl, rfl, J⟩ := hrel
    by_cases hlt : i < m
    · have hil : (i : Int) < (m : Int) := by omega
      obtain ⟨b, o, rfl, _, g1⟩ := H1.out.2.int hlt
      have HLX : Hid (i < l.length) := Lib.hid (by rw [HL.out.2]; exact hlt)
      obtain ⟨x, hx⟩ : ∃ x, x = l.getD i 0 := ⟨_, rfl⟩
      rw [← hx] at g1
      have HX := Lib.hid hx
      clear hx
      by_cases d1 : x < (F : Int)
      · have HE := Lib.hid (giveA_out (img := img) (l := l) (x := x) (by rw [HX.out]; exact int_mem HLX.out) ((HO.out x).2 (.inl d1)))
        go_wp2_with (go_at_call 28; refine (cf _ _ _).mono ?_; rintro e w8 ⟨rfl, rfl⟩)
        go_ret2
        rw [HE.out]
        exact ⟨_, n, c1, rfl, J1.out.1.reads, h5, J1.out.2⟩
      · by_cases d2 : (n : Int) ≤ x
        · have HE := Lib.hid (giveA_out (img := img) (l := l) (x := x) (by rw [HX.out]; exact int_mem HLX.out) ((HO.out x).2 (.inr d2)))
          go_wp2_with (first | (go_at_call 28; refine (cf _ _ _).mono ?_; rintro e w8 ⟨rfl, rfl⟩) | (go_at_call 63; refine (cm _ _ img _ H1.out.1 HM.out).mono ?_; rintro e w8 ⟨rfl, rfl⟩))
          go_ret2
          rw [HE.out]
          exact ⟨_, n, c1, rfl, J1.out.1.reads, h5, J1.out.2⟩
        · have JN : Hid (∀ k, k < i + 1 → ¬ outA img (l.getD k 0)) := Lib.hid fun k hk => by
            by_cases e : k = i
            · rw [e, ← HX.out, HO.out]; omega
            · exact J.out k (by omega)
          go_wp2_with (first | (go_at_call 28; refine (cf _ _ _).mono ?_; rintro e w8 ⟨rfl, rfl⟩) | (go_at_call 63; refine (cm _ _ img _ H1.out.1 HM.out).mono ?_; rintro e w8 ⟨rfl, rfl⟩))
          go_roundg (m - (i + 1))
          case measure => omega
          case rel => exact ⟨i + 1, by omega, by omega, by go_num, rfl, JN⟩
    · have : i = m := by omega
      subst this
      have HIN : Hid (∀ x ∈ l, ¬ outA img x) := Lib.hid fun x hx => by
        obtain ⟨k, hk, e⟩ := List.mem_iff_getElem.1 hx
        have := J.out k (by rw [← HL.out.2]; exact hk)
        rw [List.getD_eq_getElem?_getD, List.getElem?_eq_getElem hk] at this
        rw [← e]; exact this
      have HG := Lib.hid (giveA_in HIN.out)
      clear J
      go_wp2
      go_loopg [33] i (fun gk s33 wr => ∃ (j : Nat) (ci : List ByteArray), j ≤ i ∧ i - j ≤ gk ∧ s33 = .int .i64 j ∧ Hid (gaveA img (l.take j) = some ci) ∧ Hid (OwI wr w.heap.size g n c1 ci ∧ Below w.heap.size w wr ∧ Reads wr wr.heap.size 1 A n (encS img) ∧ Reads wr wr.heap.size 1 B i (encI l)))
      case atStart => exact ⟨0, img, Nat.zero_le _, by omega, rfl, Lib.hid rfl, Lib.hid ⟨J1.out.1, J1.out.2, H1.out.1, H1.out.2⟩⟩
      case round =>
        clear J1 H1
        obtain ⟨j, ci, hj, hgk, rfl, K, J⟩ := hrel
        by_cases hlt : j < i
        · have hil : (j : Int) < (i : Int) := by omega
          obtain ⟨b, o, rfl, hbb, g1⟩ := J.out.2.2.2.int hlt
          have HLX : Hid (j < l.length) := Lib.hid (by rw [HL.out.2]; exact hlt)
          have HNO := Lib.hid (HIN.out _ (int_mem HLX.out))
          obtain ⟨x, hx⟩ : ∃ x, x = l.getD j 0 := ⟨_, rfl⟩
          rw [← hx] at g1 HNO
          have HX := Lib.hid hx
          have hxr : (F : Int) ≤ x ∧ x < (n : Int) := by
            have := HNO.out
            rw [HO.out] at this
            omega
          obtain ⟨X, hX⟩ : ∃ X : Nat, x = X := ⟨x.toNat, by omega⟩
          subst hX
          have hXn : X < n := by omega
          have MC := Lib.hid (gave_MapP _ HM.out K.out)
          have cti := ct (some ⟨g, 0, none⟩) c1 ci X _ J.out.1.reads MC.out.1
          rw [takenA_in (by rw [MC.out.2, HL.out.1]; exact hXn)] at cti
          obtain ⟨t, ht⟩ : ∃ t, t = bitA (blk ci 1) X := ⟨_, rfl⟩
          rw [← ht] at cti
          have HT := Lib.hid ht
          have HNG : Hid (∀ q, q < wr.heap.size → q < w.heap.size → q ≠ g) := Lib.hid fun q _ hq e => by have := J.out.1.ge; omega
          clear hx ht hxr
          cases t with
          | true =>
            have KN := Lib.hid (gave_yes K.out HLX.out (by rw [← HX.out, Int.toNat_natCast]; exact HT.out.symm))
            rw [← HX.out, Int.toNat_natCast] at KN
            have h1n : 1 < n := by omega
            have c1' := J.out.1.cell 1 h1n
            have hms := MC.out.1.2
            have ctu := turned_any (blk ci 1) X (by omega) (by omega) (by omega)
            obtain ⟨mp, hmp⟩ : ∃ mp, mp = blk ci 1 := ⟨_, rfl⟩
            have HMP : Hid (ci.set 1 (flipA mp X) = turn1A ci X) := Lib.hid (by rw [hmp]; rfl)
            rw [← hmp] at c1' ctu hms
            clear hmp
            go_wp2_with (go_at_call 29; refine cti.mono ?_; rintro e w3 ⟨rfl, rfl⟩)
            refine (ctu _).mono ?_
            rintro e w8 ⟨rfl, hb8⟩
            have J8 := Lib.hid (And.intro (J.out.1.step hb8) (bstep J.out.2.1 hb8))
            clear c1' hb8 J g1 ctu cti
            have c1' := J8.out.1.cell 1 h1n
            have f1' := J8.out.1.free 1
            have hs8 := J8.out.1.set 1 (flipA mp X)
            rw [HMP.out] at hs8
            have hbe := J8.out.1.below_set 1 (.string (flipA mp X)) (Nat.le_refl _) J8.out.2
            have JN := Lib.hid (And.intro hs8 (And.intro hbe (And.intro (HA.out.1.step hbe) (HA.out.2.step hbe))))
            clear hs8 hbe J8
            go_wp2
            go_roundg (i - (j + 1))
            case measure => omega
            case rel => exact ⟨j + 1, _, by omega, by omega, by go_num, KN, JN⟩
          | false =>
            have HE : Hid (giveA img l = (img, 20)) := Lib.hid (by rw [HG.out, gave_no K.out HLX.out (by rw [← HX.out, Int.toNat_natCast]; exact HT.out.symm)])
            have cown := co _ J.out.2.2.1
            go_wp2_with (go_at_call 29; refine cti.mono ?_; rintro e w3 ⟨rfl, rfl⟩)
            refine cown.mono ?_
            rintro e w8 ⟨A8, c8, rfl, hO8, hb8⟩
            have HR := Lib.hid (And.intro (Reads.of_own hO8) (bstep J.out.2.1 hb8))
            clear hO8 hb8
            go_wp2
            go_ret2
            rw [HE.out]
            exact ⟨A8, n, c8, rfl, HR.out.1, h5, HR.out.2⟩
        · have : j = i := by omega
          subst this
          have HE : Hid (giveA img l = (ci, 0)) := Lib.hid (by
            have := K.out
            rw [List.take_of_length_le (by rw [HL.out.2]; exact Nat.le_refl _)] at this
            rw [HG.out, this])
          go_wp2
          go_ret2
          rw [HE.out]
          exact ⟨_, n, c1, rfl, J.out.1.reads, h5, J.out.2.1⟩

end Go.Proofs.Ytcfmpmcdfllibaa
