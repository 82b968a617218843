/-
  The document's own block 0, and its empty image.
-/
import Derived.Test.YtpdfkakhahfcjaaGreatG04
import Derived.Laws.IdiomCopy
import Derived.Lib.LazyBuf
namespace Go.Proofs.YtpdfkakhahfcjaaGreat
open Go.RowKit

/-- copy(dst, s), s a text of whatever length: as many bytes as fit. -/
theorem run_copy_text {P : Program} (w : World) (dT sT ty elem : TypeId) (b o dLen dCap : Nat) (t : ByteArray) (hu : P.underlying dT = some (.slice elem)) (hz : ∀ w, (Go.sizeOf elem).run P w = .ok 1 w) (n : Nat) (hn : Nat.min t.size dLen = n)
    (hc : ∀ j, j < n → (w.cell? ⟨b, o + j, none⟩).isSome = true) (hf : ∀ j, j < n → w.frozen? ⟨b, o + j, none⟩ = false) :
    (Builtin.copy_ #[dT, sT] ty #[.slice (some ⟨b, o, none⟩) dLen dCap, .string t]).run P w = .ok (goInt n) (w.setCells b o ((t.data.toList.take n).map fun x => Value.int .u8 (x.toNat : Int))) := by
  have hsz : t.data.toList.length = t.size := by simp
  have hnt : n ≤ t.size := by rw [← hn]; exact Nat.min_le_left _ _
  have hl : ((t.data.toList.take n).map fun x => Value.int .u8 (x.toNat : Int)).length = n := by rw [List.length_map, List.length_take, hsz]; omega
  have hst := run_storeCells_cells (P := P) b o ((t.data.toList.take n).map fun x => Value.int .u8 (x.toNat : Int)) 0 w (by rw [hl]; simpa using hc) (by rw [hl]; simpa using hf) (by
    intro v hv
    obtain ⟨x, _, rfl⟩ := List.mem_map.1 hv
    rfl)
  simp [Builtin.copy_, run_underlying hu, Builtin.lenOf, Builtin.firstCells, hz, hn]
  rw [List.map_take] at hst
  rw [hst]
  rfl

theorem infoUA : (Tryz.prog.info? 5).map (fun i => (i.zero, i.size, i.bytes)) = some (some (.int .u8 0), 1, 1) := by kernel_rfl
theorem made_byt {w w1 : World} {g : Nat} (ho : w1.ownsRow w.heap.size 5 1 (.slice (some ⟨g, 0, none⟩) 128 128) 128 (madeCells #[.int .u8 0] 128).toList) : Byt w1 g (List.replicate 128 0) := by
  rw [toList_madeCells_one] at ho
  exact Byt.of_own (l := List.replicate 128 0) (by simpa using ho) (by omega)
theorem mkB_zeros : mkB (List.replicate 128 0) = zeroB := by decide +kernel
theorem mkB_super (n : Nat) (a b c d : UInt8) (h1 : a = UInt8.ofNat (n / 256)) (h2 : b = UInt8.ofNat n) (h3 : c = UInt8.ofNat (cntA n / 256)) (h4 : d = UInt8.ofNat (cntA n)) :
    mkB (((((((((List.replicate 128 (0 : UInt8)).set 0 65).set 1 70).set 2 83).set 3 49).set 4 a).set 5 b).set 6 c).set 7 d) = superB n := by
  subst h1; subst h2; subst h3; subst h4
  rfl
theorem copy_text4 {P : Program} (w : World) (dT sT ty elem : TypeId) (g : Nat) (hu : P.underlying dT = some (.slice elem)) (hz : ∀ w, (Go.sizeOf elem).run P w = .ok 1 w) (h : Byt w g (List.replicate 128 0)) :
    (Builtin.copy_ #[dT, sT] ty #[.slice (some ⟨g, 0, none⟩) 128 128, .string ⟨#[65, 70, 83, 49]⟩]).run P w = .ok (goInt 4) ((((w.setCell ⟨g, 0, none⟩ (.int .u8 65)).setCell ⟨g, 1, none⟩ (.int .u8 70)).setCell ⟨g, 2, none⟩ (.int .u8 83)).setCell ⟨g, 3, none⟩ (.int .u8 49)) :=
  run_copy_text w dT sT ty elem g 0 128 128 ⟨#[65, 70, 83, 49]⟩ hu hz 4 rfl (fun j hj => by rw [Nat.zero_add, h.cell j (by simp; omega)]; rfl) (fun j hj => by rw [Nat.zero_add]; exact h.free j (by simp; omega))

set_option maxRecDepth 100000 in
set_option maxHeartbeats 2000000 in
theorem refSuper_any (n : Nat) (w : World) (hn : n ≤ 512) : Calls Tryz.prog 50 #[.int .i64 n] w fun e w' => e = .returned (.string (superB n)) ∧ Below w.heap.size w w' := by
  obtain ⟨i0, hi0, hz0, hz1, hz2⟩ := info_parts infoUA
  have ci := fun W => refCount_any n (by unfold maxLen; omega) W
  have hk : cntA n ≤ 128 := by unfold cntA; omega
  have HM := Lib.hid (fun a b c d => mkB_super n a b c d)
  generalize cntA n = k at ci hk HM
  go_enter Tryz.func50, Tryz.ntmps50
  go_wp2_with (at_make; refine wpList_make_full _ rfl _ _ 53 rfl w.heap.size 5 i0 _ 1 Tryz.underlying53 hi0 hz0 hz1 .i64 .i64 128 128 128 rfl rfl rfl rfl ?_ ?_ ?_ ?_)
  · rw [hz2]; omega
  · simp only [maxLen]; omega
  · exact Nat.le_refl _
  intro w1 ho1 hg1
  have hb1 : Below w.heap.size w w1 := (Below.refl _ _).grown hg1 (Nat.le_refl _) (by intro k hk; cases hk)
  have Y1 := made_byt ho1
  have hcp := copy_text4 (P := Tryz.prog) w1 53 9 3 5 w.heap.size Tryz.underlying53 Tryz.sizeOf5 Y1
  have hb2 : Below w.heap.size w ((((w1.setCell ⟨w.heap.size, 0, none⟩ (.int .u8 65)).setCell ⟨w.heap.size, 1, none⟩ (.int .u8 70)).setCell ⟨w.heap.size, 2, none⟩ (.int .u8 83)).setCell ⟨w.heap.size, 3, none⟩ (.int .u8 49)) := (((hb1.setCell (Nat.le_refl _) _).setCell (Nat.le_refl _) _).setCell (Nat.le_refl _) _).setCell (Nat.le_refl _) _
  have Y2 := (((Y1.set 0 65).set 1 70).set 2 83).set 3 49
  have Y2 : Byt ((((w1.setCell ⟨w.heap.size, 0, none⟩ (.int .u8 65)).setCell ⟨w.heap.size, 1, none⟩ (.int .u8 70)).setCell ⟨w.heap.size, 2, none⟩ (.int .u8 83)).setCell ⟨w.heap.size, 3, none⟩ (.int .u8 49)) w.heap.size _ := Y2
  generalize (((w1.setCell ⟨w.heap.size, 0, none⟩ (.int .u8 65)).setCell ⟨w.heap.size, 1, none⟩ (.int .u8 70)).setCell ⟨w.heap.size, 2, none⟩ (.int .u8 83)).setCell ⟨w.heap.size, 3, none⟩ (.int .u8 49) = w2 at hcp Y2 hb2
  have hl2 : (((((List.replicate 128 (0 : UInt8)).set 0 65).set 1 70).set 2 83).set 3 49).length = 128 := rfl
  obtain ⟨v4, c4⟩ : ∃ v, w2.cell? ⟨w.heap.size, 4, none⟩ = some v := ⟨_, Y2.cell 4 (by rw [hl2]; omega)⟩
  obtain ⟨v5, c5⟩ : ∃ v, w2.cell? ⟨w.heap.size, 5, none⟩ = some v := ⟨_, Y2.cell 5 (by rw [hl2]; omega)⟩
  obtain ⟨v6, c6⟩ : ∃ v, w2.cell? ⟨w.heap.size, 6, none⟩ = some v := ⟨_, Y2.cell 6 (by rw [hl2]; omega)⟩
  obtain ⟨v7, c7⟩ : ∃ v, w2.cell? ⟨w.heap.size, 7, none⟩ = some v := ⟨_, Y2.cell 7 (by rw [hl2]; omega)⟩
  have f4 := Y2.free 4 (by rw [hl2]; omega)
  have f5 := Y2.free 5 (by rw [hl2]; omega)
  have f6 := Y2.free 6 (by rw [hl2]; omega)
  have f7 := Y2.free 7 (by rw [hl2]; omega)
  have Y3 := (((Y2.set 4 (UInt8.ofNat (n / 256))).set 5 (UInt8.ofNat n)).set 6 (UInt8.ofNat (k / 256))).set 7 (UInt8.ofNat k)
  rw [show ((UInt8.ofNat (n / 256)).toNat : Int) = (n : Int) / 256 by rw [← byte_hi]; omega, show ((UInt8.ofNat n).toNat : Int) = (n : Int) % 256 from (byte_lo n).symm, show ((UInt8.ofNat (k / 256)).toNat : Int) = (k : Int) / 256 by rw [← byte_hi]; omega, show ((UInt8.ofNat k).toNat : Int) = (k : Int) % 256 from (byte_lo k).symm] at Y3
  have hcv := Y3.conv (P := Tryz.prog) Tryz.underlying53 Tryz.underlying5 Tryz.underlying9 128 128 (by simp)
  rw [HM.out _ _ _ _ rfl rfl rfl rfl] at hcv
  have hb3 : Below w.heap.size w ((((w2.setCell ⟨w.heap.size, 4, none⟩ (.int .u8 ((n : Int) / 256))).setCell ⟨w.heap.size, 5, none⟩ (.int .u8 ((n : Int) % 256))).setCell ⟨w.heap.size, 6, none⟩ (.int .u8 ((k : Int) / 256))).setCell ⟨w.heap.size, 7, none⟩ (.int .u8 ((k : Int) % 256))) := (((hb2.setCell (Nat.le_refl _) _).setCell (Nat.le_refl _) _).setCell (Nat.le_refl _) _).setCell (Nat.le_refl _) _
  have HY := Lib.hid hb3
  clear hb1 ho1 hg1 Y1 Y2 Y3 hb2 hb3 hl2 HM
  go_wp2_with (go_at_call 51; refine (ci _).mono ?_; rintro e w3 ⟨rfl, rfl⟩)
  go_ret
  exact ⟨rfl, HY.out⟩

set_option maxRecDepth 100000 in
set_option maxHeartbeats 2000000 in
theorem refFree_any (A : Option Addr) (n c : Nat) (img : List ByteArray) (w : World) (h : Reads w w.heap.size 1 A n (encS img)) (hf : MapP img) :
    Calls Tryz.prog 85 #[.slice A n c] w fun e w' => e = .returned (.int .i64 ((freeA img).length : Nat)) ∧ w = w' := by
  have hl := h.lenS
  have cf := fun W => refFirst_any A n c (by unfold maxLen; have := hf.1; omega) W
  have ct := fun (i : Int) W hW => refTaken_any A n c img i W hW hf
  have h5 : n ≤ 512 := by have := hf.1; omega
  have h8 : 8 ≤ n := by have := hf.1; omega
  obtain ⟨F, hF⟩ : ∃ F, F = firstA n := ⟨_, rfl⟩
  have hF2 : F ≤ 34 := by unfold firstA cntA at hF; omega
  rw [← hF] at cf
  have HF : Hid (F = firstA img.length) := Lib.hid (by rw [hl]; exact hF)
  have H := Lib.hid h
  have HL := Lib.hid hl
  clear h hl hF hf
  have hFn : F ≤ n := by have := first_le h8 h5; rw [HF.out, HL.out]; omega
  go_enter Tryz.func85, Tryz.ntmps85
  go_wp2_with (go_at_call 22; refine (cf _).mono ?_; rintro e w3 ⟨rfl, rfl⟩)
  go_loopg [3, 4] n (fun gk s3 s4 wr => ∃ i : Nat, F ≤ i ∧ i ≤ n ∧ n - i ≤ gk ∧ s4 = .int .i64 i ∧ s3 = .int .i64 ((freeTo img i).length : Nat) ∧ w = wr)
  case atStart => exact ⟨F, Nat.le_refl _, hFn, by omega, rfl, by rw [freeTo_zero (by rw [← HF.out]; exact Nat.le_refl _)]; rfl, rfl⟩
  case round =>
    obtain ⟨i, hFi, hi, hgk, rfl, rfl, rfl⟩ := hrel
    by_cases hlt : i < n
    · have hil : (i : Int) < (n : Int) := by omega
      have cti := ct i w H.out
      rw [takenA_in (by rw [HL.out]; exact hlt)] at cti
      have hfl := freeTo_len (img := img) i
      obtain ⟨t, ht⟩ : ∃ t, t = bitA (blk img 1) i := ⟨_, rfl⟩
      rw [← ht] at cti
      have HT := Lib.hid ht
      obtain ⟨k, hk⟩ : ∃ k, k = (freeTo img i).length := ⟨_, rfl⟩
      rw [← hk] at hfl ⊢
      have HK := Lib.hid hk
      clear ht hk
      cases t with
      | true =>
        have HN : Hid ((freeTo img (i + 1)).length = k) := Lib.hid (by rw [freeTo_no HT.out.symm, HK.out])
        go_wp2_with (go_at_call 23; refine cti.mono ?_; rintro e w3 ⟨rfl, rfl⟩)
        go_roundg (n - (i + 1))
        case measure => omega
        case rel => exact ⟨i + 1, by omega, by omega, by omega, by go_num, by rw [HN.out], rfl⟩
      | false =>
        have HN : Hid ((freeTo img (i + 1)).length = k + 1) := Lib.hid (by rw [freeTo_yes HT.out.symm (by rw [← HF.out]; exact hFi), List.length_append, ← HK.out]; rfl)
        go_wp2_with (go_at_call 23; refine cti.mono ?_; rintro e w3 ⟨rfl, rfl⟩)
        go_roundg (n - (i + 1))
        case measure => omega
        case rel => exact ⟨i + 1, by omega, by omega, by omega, by go_num, by rw [HN.out]; go_num, rfl⟩
    · have : i = n := by omega
      subst this
      have HE : Hid (freeA img = freeTo img i) := Lib.hid (by unfold freeA; rw [HL.out])
      obtain ⟨k, hk⟩ : ∃ k, k = (freeTo img i).length := ⟨_, rfl⟩
      have HK := Lib.hid hk
      rw [← hk]
      clear hk
      go_wp2
      go_ret
      rw [HE.out, ← HK.out]
      exact ⟨rfl, rfl⟩

set_option maxRecDepth 100000 in
set_option maxHeartbeats 2000000 in
theorem refFit_anyA (A : Option Addr) (n c : Nat) (img : List ByteArray) (w : World) (h : Reads w w.heap.size 1 A n (encS img)) (hn : n * 16 ≤ 140737488355328) :
    Calls Tryz.prog 16 #[.slice A n c] w fun e w' => e = .returned (.bool (decide (FitA img))) ∧ Below w.heap.size w w' := by
  have hmx : Tryz.prog.follows .mixedOrders = true := by kernel_rfl
  have hl := h.lenS
  have H := Lib.hid h
  have HL := Lib.hid hl
  by_cases hx1 : 8 ≤ n
  · by_cases hx2 : n ≤ 512
    · obtain ⟨b0, o0, rfl, hb0, g0⟩ := h.str (k := 0) (by omega)
      rw [Nat.add_zero] at g0
      have cs := fun W => refSuper_any n W hx2
      obtain ⟨F, hF⟩ : ∃ F, F = firstA n := ⟨_, rfl⟩
      have cf := fun W => refFirst_any (some ⟨b0, o0, none⟩) n c (by unfold maxLen; omega) W
      rw [← hF] at cf
      have HF : Hid (F = firstA img.length) := Lib.hid (by rw [hl]; exact hF)
      have hF2 : F ≤ 34 := by have := first_le hx1 hx2; omega
      have h0n : 0 < n := by omega
      have HZ : Hid (superB n = superB img.length) := Lib.hid (by rw [hl])
      generalize superB n = z at cs HZ
      clear h hl hF
      go_enter Tryz.func16, Tryz.ntmps16
      go_wp2
      go_loopg [3] n (fun gk s3 wr => ∃ i : Nat, i ≤ n ∧ n - i ≤ gk ∧ s3 = .int .i64 i ∧ w = wr ∧ Hid (∀ k, k < i → (blk img k).size = 128))
      case atStart => exact ⟨0, Nat.zero_le _, by omega, rfl, rfl, Lib.hid fun k hk => absurd hk (Nat.not_lt_zero _)⟩
      case round =>
        obtain ⟨i, hi, hgk, rfl, rfl, J⟩ := hrel
        by_cases hlt : i < n
        · have hil : (i : Int) < (n : Int) := by omega
          obtain ⟨b1, o1, e1, _, g1⟩ := H.out.str hlt
          injection e1 with e1; injection e1 with e1 e2; subst e1; subst e2
          by_cases hs : (blk img i).size = 128
          · have f1 : (((blk img i).size : Int) != 128) = false := by rw [hs]; rfl
            have JN : Hid (∀ k, k < i + 1 → (blk img k).size = 128) := Lib.hid fun k hk => by
              by_cases e : k = i
              · rw [e]; exact hs
              · exact J.out k (by omega)
            clear hs
            go_wp2
            go_roundg (n - (i + 1))
            case measure => omega
            case rel => exact ⟨i + 1, by omega, by omega, by go_num, rfl, JN⟩
          · have f1 : (((blk img i).size : Int) != 128) = true := by simp; omega
            have HNO : Hid (decide (FitA img) = false) := Lib.hid (fitA_no fun hP => hs (hP.2.1 _ (List.mem_of_getElem? (blk_get (by rw [HL.out]; exact hlt)))))
            clear hs
            go_wp2
            go_ret
            rw [HNO.out]
            exact ⟨rfl, Below.refl _ _⟩
        · have : i = n := by omega
          subst this
          obtain ⟨b1, o1, e1, hb1, g1⟩ := H.out.str (k := 1) (by omega)
          injection e1 with e1; injection e1 with e1 e2; subst e1; subst e2
          have hm := J.out 1 (by omega)
          obtain ⟨m, hm1⟩ : ∃ m, m = blk img 1 := ⟨_, rfl⟩
          rw [← hm1] at g1 hm
          have HMM := Lib.hid hm1
          have h1n : 1 < i := by omega
          obtain ⟨s0, hs0⟩ : ∃ s, s = blk img 0 := ⟨_, rfl⟩
          rw [← hs0] at g0
          have HS0 := Lib.hid hs0
          have HG1 := Lib.hid g1
          obtain ⟨q, hq⟩ : ∃ q : Bool, q = (s0.toList == z.toList) := ⟨_, rfl⟩
          have HQ := Lib.hid hq
          have t0 : (!(s0.toList == z.toList)) = !q := by rw [hq]
          clear hm1 hlt hs0 hq g1
          cases q with
          | true =>
            have t0 : (!(s0.toList == z.toList)) = false := t0
            go_wp2
            refine regionA (w0 := w) (Below.refl _ _) hmx (by kernel_rfl) ?_
            repeat (first
              | go_big_quiet_skip
              | (go_big_quiet_want; go_big_quiet_op; first
                  | go_big_quiet_on
                  | (refine ⟨_, fun _ _ => rfl, ?_⟩; go_big_quiet_on)
                  | (refine ⟨.string s0, fun w5 hw5 => ?_, ?_⟩
                     · rw [(hw5.cell (p := ⟨b0, o0, none⟩) hb0).trans g0]; exact ⟨rfl, rfl⟩
                     go_big_quiet_on)
                  | (apply Exists.intro
                     refine ⟨fun w5 hw5 => ?_, ?_⟩
                     · (refine (cs _).mono ?_; rintro e w6 ⟨rfl, hbx⟩; exact ⟨rfl, bstep hw5 hbx⟩)
                     go_big_quiet_on)))
            refine wpQuiet_nil ?_
            intro w7 hw7
            have HG2 : Hid (w7.cell? ⟨b0, o0 + 1, none⟩ = some (.string m)) := Lib.hid ((hw7.cell (p := ⟨b0, o0 + 1, none⟩) hb0).trans HG1.out)
            have g1 := HG2.out
            have HB7 := Lib.hid hw7
            clear hw7 g0
            go_wp2
            go_loopg [4] 1024 (fun gk s4 wr => ∃ j : Nat, j ≤ 1024 ∧ 1024 - j ≤ gk ∧ s4 = .int .i64 j ∧ w7 = wr ∧ Hid (∀ b, b < j → CondA img b))
            case atStart => exact ⟨0, Nat.zero_le _, by omega, rfl, rfl, Lib.hid fun k hk => absurd hk (Nat.not_lt_zero _)⟩
            case round =>
              obtain ⟨j, hj, hgk, rfl, rfl, J2⟩ := hrel
              by_cases hlt : j < 1024
              · have hjl : (j : Int) < 1024 := by omega
                have hjm : j / 8 < m.size := by omega
                have bm := bit_mod m j hjm
                have bn := bit_tmod m j hjm
                obtain ⟨t, ht⟩ : ∃ t, t = bitA m j := ⟨_, rfl⟩
                rw [← ht] at bm bn
                have HT : Hid (bitA (blk img 1) j = t) := Lib.hid (by rw [← HMM.out, ht])
                clear ht
                have YES : CondA img j → Hid (∀ b, b < j + 1 → CondA img b) := fun hc => Lib.hid fun b hb => by
                  by_cases e : b = j
                  · rw [e]; exact hc
                  · exact J2.out b (by omega)
                have NO : ¬ CondA img j → Hid (decide (FitA img) = false) := fun hc => Lib.hid (fitA_no fun hP => hc (hP.2.2.2 j hlt))
                have HFn : F ≤ i := by have := first_le hx1 hx2; have := HF.out; rw [HL.out] at this; omega
                by_cases hjF : j < F
                · have d1 : (j : Int) < (F : Int) := by omega
                  have d2 : ¬ (i : Int) ≤ (j : Int) := by omega
                  cases t with
                  | true =>
                    have JN := YES ⟨fun _ => HT.out, fun h => absurd h (by rw [HL.out]; omega)⟩
                    clear YES NO
                    go_wp2_with (go_at_call 22; refine (cf _).mono ?_; rintro e w8 ⟨rfl, rfl⟩)
                    go_roundg (1024 - (j + 1))
                    case measure => omega
                    case rel => exact ⟨j + 1, by omega, by omega, by go_num, rfl, JN⟩
                  | false =>
                    have HNO := NO (fun h => by have := h.1 (by rw [← HF.out]; exact hjF); rw [HT.out] at this; cases this)
                    clear YES NO
                    go_wp2_with (go_at_call 22; refine (cf _).mono ?_; rintro e w8 ⟨rfl, rfl⟩)
                    go_ret
                    rw [HNO.out]
                    exact ⟨rfl, HB7.out⟩
                · have d1 : ¬ (j : Int) < (F : Int) := by omega
                  by_cases hjn : i ≤ j
                  · have d2 : (i : Int) ≤ (j : Int) := by omega
                    cases t with
                    | true =>
                      have HNO := NO (fun h => by have := h.2 (by rw [HL.out]; exact hjn); rw [HT.out] at this; cases this)
                      clear YES NO
                      go_wp2_with (go_at_call 22; refine (cf _).mono ?_; rintro e w8 ⟨rfl, rfl⟩)
                      go_ret
                      rw [HNO.out]
                      exact ⟨rfl, HB7.out⟩
                    | false =>
                      have JN := YES ⟨fun h => absurd h (by rw [← HF.out]; omega), fun _ => HT.out⟩
                      clear YES NO
                      go_wp2_with (go_at_call 22; refine (cf _).mono ?_; rintro e w8 ⟨rfl, rfl⟩)
                      go_roundg (1024 - (j + 1))
                      case measure => omega
                      case rel => exact ⟨j + 1, by omega, by omega, by go_num, rfl, JN⟩
                  · have d2 : ¬ (i : Int) ≤ (j : Int) := by omega
                    have JN := YES ⟨fun h => absurd h (by rw [← HF.out]; omega), fun h => absurd h (by rw [HL.out]; exact hjn)⟩
                    clear YES NO
                    cases t with
                    | true =>
                      go_wp2_with (go_at_call 22; refine (cf _).mono ?_; rintro e w8 ⟨rfl, rfl⟩)
                      go_roundg (1024 - (j + 1))
                      case measure => omega
                      case rel => exact ⟨j + 1, by omega, by omega, by go_num, rfl, JN⟩
                    | false =>
                      go_wp2_with (go_at_call 22; refine (cf _).mono ?_; rintro e w8 ⟨rfl, rfl⟩)
                      go_roundg (1024 - (j + 1))
                      case measure => omega
                      case rel => exact ⟨j + 1, by omega, by omega, by go_num, rfl, JN⟩
              · have : j = 1024 := by omega
                subst this
                have HYES : Hid (decide (FitA img) = true) := Lib.hid (decide_eq_true ⟨by rw [HL.out]; exact ⟨hx1, hx2⟩, fun s hs => by
                  obtain ⟨k, hk, e⟩ := List.mem_iff_getElem.1 hs
                  have h2 := blk_get hk
                  rw [List.getElem?_eq_getElem hk, e] at h2
                  injection h2 with h2
                  rw [h2]
                  exact J.out k (by rw [← HL.out]; exact hk), by rw [← HS0.out, ← HZ.out]; exact bytes_inj (by simpa using HQ.out.symm), J2.out⟩)
                go_wp2
                go_ret
                rw [HYES.out]
                exact ⟨rfl, HB7.out⟩
          | false =>
            have t0 : (!(s0.toList == z.toList)) = true := t0
            have HNO : Hid (decide (FitA img) = false) := Lib.hid (fitA_no fun hP => by
              have h1 := HQ.out
              rw [HS0.out, hP.2.2.1, HZ.out] at h1
              simp at h1)
            go_wp2
            refine regionA (w0 := w) (Below.refl _ _) hmx (by kernel_rfl) ?_
            repeat (first
              | go_big_quiet_skip
              | (go_big_quiet_want; go_big_quiet_op; first
                  | go_big_quiet_on
                  | (refine ⟨_, fun _ _ => rfl, ?_⟩; go_big_quiet_on)
                  | (refine ⟨.string s0, fun w5 hw5 => ?_, ?_⟩
                     · rw [(hw5.cell (p := ⟨b0, o0, none⟩) hb0).trans g0]; exact ⟨rfl, rfl⟩
                     go_big_quiet_on)
                  | (apply Exists.intro
                     refine ⟨fun w5 hw5 => ?_, ?_⟩
                     · (refine (cs _).mono ?_; rintro e w6 ⟨rfl, hbx⟩; exact ⟨rfl, bstep hw5 hbx⟩)
                     go_big_quiet_on)))
            refine wpQuiet_nil ?_
            intro w7 hw7
            go_wp2
            go_ret
            rw [HNO.out]
            exact ⟨rfl, hw7⟩
    · have HNO : Hid (decide (FitA img) = false) := Lib.hid (fitA_no fun hP => hx2 (by rw [← hl]; exact hP.1.2))
      have t1 : (512 : Int) < (n : Int) := by omega
      clear h hl
      go_enter Tryz.func16, Tryz.ntmps16
      go_wp2
      go_ret
      rw [HNO.out]
      exact ⟨rfl, Below.refl _ _⟩
  · have HNO : Hid (decide (FitA img) = false) := Lib.hid (fitA_no fun hP => hx1 (by rw [← hl]; exact hP.1.1))
    have t1 : (n : Int) < 8 := by omega
    clear h hl
    go_enter Tryz.func16, Tryz.ntmps16
    go_wp2
    go_ret
    rw [HNO.out]
    exact ⟨rfl, Below.refl _ _⟩

end Go.Proofs.YtpdfkakhahfcjaaGreat

/-
  The document's own empty image; blocks taken and given back.
-/
namespace Go.Proofs.YtpdfkakhahfcjaaGreat
open Go.RowKit

theorem repl_succ (n : Nat) (s : ByteArray) : List.replicate n s ++ [s] = List.replicate (n + 1) s := by
  rw [List.replicate_succ']
theorem head_zeros {n : Nat} (hn : 8 ≤ n) : superB n :: List.replicate (n - 1) zeroB = makeL n 0 := by
  rw [makeL_zero (by omega)]
  obtain ⟨k, rfl⟩ : ∃ k, n = k + 1 := ⟨n - 1, by omega⟩
  rw [List.replicate_succ]; rfl
theorem makeL_MapP {n k : Nat} (h8 : 8 ≤ n) (h5 : n ≤ 512) : MapP (makeL n k) := ⟨by rw [makeL_length]; exact ⟨h8, h5⟩, by rw [makeL_map (by omega), mapL_size]⟩

/-- An image is told, and an error. -/
def ImgsA (w w' : World) (img : List ByteArray) (code : Int) (e : Ending) : Prop := ∃ A n c, e = .returned (.tuple #[.slice A n c, .int .i64 code]) ∧ Reads w' w'.heap.size 1 A n (encS img) ∧ n ≤ 512 ∧ Below w.heap.size w w'
end Go.Proofs.YtpdfkakhahfcjaaGreat

/-
  Blocks taken and given back, as the document tells it.
-/
namespace Go.Proofs.YtpdfkakhahfcjaaGreat
open Go.RowKit

/-- While blocks are taken: the image of the call's own, the list of numbers of the call's own. -/
structure Tk (w wr : World) (g n c : Nat) (img : List ByteArray) (A : Option Addr) (k ca : Nat) (L : List Nat) : Prop where
  oi : OwI wr w.heap.size g n c img
  ol : wr.ownsRow w.heap.size 3 1 (.slice A k ca) k (encN L)
  below : Below w.heap.size w wr
section
variable {w wr w' : World} {g n c k ca : Nat} {img : List ByteArray} {A : Option Addr} {L : List Nat}
theorem Tk.step (h : Tk w wr g n c img A k ca L) (hb : Below wr.heap.size wr w') : Tk w w' g n c img A k ca L := ⟨h.oi.step hb, own_below h.ol hb, bstep h.below hb⟩
theorem Tk.len (h : Tk w wr g n c img A k ca L) : L.length = k := by have := h.ol.1; rw [encN_length] at this; omega
theorem Tk.app (h : Tk w wr g n c img A k ca L) (o : Obj) {A6 : Option Addr} {k6 c6 i : Nat} (ho : w'.ownsRow w.heap.size 3 1 (.slice A6 k6 c6) k6 (encN L ++ [.int .i64 (i : Int)])) (hg : (wr.alloc o).grownBy w' (Value.slice A k ca).ownBlock) : Tk w w' g n c img A6 k6 c6 (L ++ [i]) :=
  ⟨⟨own_grown (own_alloc h.oi.own o) hg (fun q e1 e2 => own_apart h.oi.own h.ol (by decide) q e1 e2), h.oi.pos⟩, by rw [encN_app]; exact ho, (h.below.alloc h.below.size o).grown hg (by have := h.below.size; simp; omega) (fun q hq => own_row_ge h.ol q hq)⟩
theorem Tk.put (h : Tk w wr g n c img A k ca L) (j : Nat) (s : ByteArray) : Tk w (wr.setCell ⟨g, j, none⟩ (.string s)) g n c (img.set j s) A k ca L :=
  ⟨h.oi.set j s, own_grown h.ol (h.oi.own.stored j (.string s)).2 (fun q e1 e2 => own_apart h.oi.own h.ol (by decide) q e2 e1), h.oi.below_set j _ (Nat.le_refl _) h.below⟩
theorem Tk.image (h : Tk w wr g n c img A k ca L) (hb : Below wr.heap.size wr w') {g2 c2 : Nat} {img2 : List ByteArray} (ho : OwI w' wr.heap.size g2 n c2 img2) : Tk w w' g2 n c2 img2 A k ca L :=
  ⟨⟨own_base ho.own h.below.size, ho.pos⟩, own_below h.ol hb, bstep h.below hb⟩
end
/-- An image is told, numbers, and an error. -/
def ImgL (w w' : World) (img : List ByteArray) (l : List Nat) (code : Int) (e : Ending) : Prop := ∃ A n c A2 k c2, e = .returned (.tuple #[.slice A n c, .slice A2 k c2, .int .i64 code]) ∧ Reads w' w'.heap.size 1 A n (encS img) ∧ n ≤ 512 ∧ Reads w' w'.heap.size 1 A2 k (encN l) ∧ k ≤ 512 ∧ Below w.heap.size w w'

set_option maxRecDepth 100000 in
set_option maxHeartbeats 4000000 in
theorem refTake_any (A : Option Addr) (n c : Nat) (img : List ByteArray) (x : Int) (w : World) (h : Reads w w.heap.size 1 A n (encS img)) (hf : MapP img) :
    Calls Tryz.prog 49 #[.slice A n c, .int .i64 x] w fun e w' => ImgL w w' (takeA img x).1 (takeA img x).2.1 (takeA img x).2.2 e := by
  obtain ⟨u0, hu0, hz0, hz1, hz2⟩ := info_parts infoUA
  obtain ⟨i0, hi0, hy0, hy1, hy2⟩ := info_parts infoI
  have hl := h.lenS
  have h8 : 8 ≤ n := by have := hf.1; omega
  have h5 : n ≤ 512 := by have := hf.1; omega
  have co := fun W hW => refOwn_any A n c img W hW (by omega)
  by_cases hx : x < 0
  · have HE : Hid (takeA img x = (img, [], 13)) := Lib.hid (by unfold takeA; rw [if_pos hx])
    go_enter Tryz.func49, Tryz.ntmps49
    go_wp2_with fail
    refine (co _ h).mono ?_
    rintro e w1 ⟨A1, c1, rfl, ho1, hb1⟩
    go_wp2
    go_ret3
    rw [HE.out]
    exact ⟨A1, n, c1, none, 0, 0, rfl, .of_own ho1, h5, Reads.nil, by omega, hb1⟩
  · obtain ⟨K, rfl⟩ : ∃ K : Nat, x = K := ⟨x.toNat, by omega⟩
    have cfr := refFree_any A n c img w h hf
    by_cases hK : (freeA img).length < K
    · have HE : Hid (takeA img K = (img, [], 18)) := Lib.hid (by unfold takeA; rw [if_neg hx, if_pos (by omega)])
      have H := Lib.hid h
      generalize (freeA img).length = fr at cfr hK
      have hK2 : (fr : Int) < (K : Int) := by omega
      clear h hl
      go_enter Tryz.func49, Tryz.ntmps49
      go_wp2_with (go_at_call 85; refine cfr.mono ?_; rintro e w8 ⟨rfl, rfl⟩)
      refine (co _ H.out).mono ?_
      rintro e w1 ⟨A1, c1, rfl, ho1, hb1⟩
      go_wp2
      go_ret3
      rw [HE.out]
      exact ⟨A1, n, c1, none, 0, 0, rfl, .of_own ho1, h5, Reads.nil, by omega, hb1⟩
    · have HE : Hid (takeA img K = (tookA img ((freeA img).take K), (freeA img).take K, 0)) := Lib.hid (by unfold takeA; rw [if_neg hx, if_neg (by omega), Int.toNat_natCast])
      have HK : Hid (K ≤ (freeA img).length) := Lib.hid (by omega)
      have hfl := freeTo_len (img := img) img.length
      have hKn : K ≤ n := by unfold freeA at hK; omega
      generalize (freeA img).length = fr at cfr hK
      have hK2 : ¬ (fr : Int) < (K : Int) := by omega
      have ct := fun (i : Int) W hW => refTaken_any A n c img i W hW hf
      obtain ⟨F, hF⟩ : ∃ F, F = firstA n := ⟨_, rfl⟩
      have cf := fun W => refFirst_any A n c (by unfold maxLen; omega) W
      rw [← hF] at cf
      have HF : Hid (F = firstA img.length ∧ 3 ≤ F) := Lib.hid ⟨by rw [hl]; exact hF, by have := first_le h8 h5; omega⟩
      have hFn : F ≤ n := by have := first_le h8 h5; omega
      have HL := Lib.hid hl
      have HM := Lib.hid hf
      have H := Lib.hid h
      have hco := co w h
      clear h hl hx hK hF hf hfl
      go_enter Tryz.func49, Tryz.ntmps49
      go_wp2_with (go_at_call 85; refine cfr.mono ?_; rintro e w8 ⟨rfl, rfl⟩)
      refine hco.mono ?_
      rintro e w1 ⟨A1, c1, rfl, ho1, hb1⟩
      obtain ⟨g, rfl, hO⟩ := OwI.of ho1 (by omega)
      have T1 : Hid (Tk w w1 g n c1 img none 0 0 []) := Lib.hid ⟨hO, own_nil, hb1⟩
      clear hO ho1 hb1 hco
      go_wp2_with (go_at_call 22; refine (cf _).mono ?_; rintro e w8 ⟨rfl, rfl⟩)
      go_loopg [7, 8, 9] n (fun gk s7 s8 s9 wr => ∃ (i k : Nat) (g c1 : Nat) (A8 : Option Addr) (c8 : Nat), F ≤ i ∧ i ≤ n ∧ n - i ≤ gk ∧ k ≤ K ∧ s9 = .int .i64 i ∧ s7 = .slice (some ⟨g, 0, none⟩) n c1 ∧ s8 = .slice A8 k c8 ∧ Hid (Tk w wr g n c1 (tookA img (freeTo img i)) A8 k c8 (freeTo img i)))
      case atStart => exact ⟨F, 0, g, c1, none, 0, Nat.le_refl _, hFn, by omega, by omega, rfl, rfl, rfl, by rw [freeTo_zero (by rw [← HF.out.1]; exact Nat.le_refl _)]; exact T1⟩
      case round =>
        clear T1
        obtain ⟨i, k, g, c1, A8, c8, hFi, hi, hgk, hkK, rfl, rfl, rfl, T⟩ := hrel
        by_cases hlt : i < n
        · have hil : (i : Int) < (n : Int) := by omega
          by_cases hk : k < K
          · have hkl : (k : Int) < (K : Int) := by omega
            have cti := ct i wr (H.out.step T.out.below)
            rw [takenA_in (by rw [HL.out]; exact hlt)] at cti
            obtain ⟨t, ht⟩ : ∃ t, t = bitA (blk img 1) i := ⟨_, rfl⟩
            rw [← ht] at cti
            have HT := Lib.hid ht
            clear ht
            cases t with
            | true =>
              have TN : Hid (Tk w wr g n c1 (tookA img (freeTo img (i + 1))) A8 k c8 (freeTo img (i + 1))) := Lib.hid (by rw [freeTo_no HT.out.symm]; exact T.out)
              clear T
              go_wp2_with (go_at_call 23; refine cti.mono ?_; rintro e w3 ⟨rfl, rfl⟩)
              go_roundg (n - (i + 1))
              case measure => omega
              case rel => exact ⟨i + 1, k, g, c1, A8, c8, by omega, by omega, by omega, by omega, by go_num, rfl, rfl, TN⟩
            | false =>
              have HN : Hid (freeTo img (i + 1) = freeTo img i ++ [i]) := Lib.hid (freeTo_yes HT.out.symm (by rw [← HF.out.1]; exact hFi))
              have HB : Hid (bitA (blk (tookA img (freeTo img i)) 1) i = false ∧ MapP (tookA img (freeTo img i))) := Lib.hid ⟨by rw [free_took_bit HM.out (by rw [HL.out]; exact hi) i (Nat.le_refl _)]; exact HT.out.symm, (took_MapP HM.out _ (fun k hk => (free_in HM.out hk (by rw [HL.out]; exact hi)).1)).1⟩
              have hsz := T.out.below.size
              go_wp2_with (first
                | (go_at_call 23; refine cti.mono ?_; rintro e w3 ⟨rfl, rfl⟩)
                | (at_builtin; refine wpList_append_reads _ rfl (.tmp 40) (.tmp 42) 49 rfl w.heap.size 3 i0 _ 1 8 Tryz.underlying49 hi0 hy0 hy1 hy2 rfl (by omega) (.slice A8 k c8) k (encN (freeTo img i)) rfl (own_alloc T.out.ol _) _ (some ⟨wr.heap.size, 0, none⟩) 1 1 [.int .i64 (i : Int)] rfl (reads_new wr #[.int .i64 (i : Int)] 3 1 1 rfl) (by simp [Value.oneCell']) (by simp only [maxLen]; omega) (by omega) (by simp; omega) ?_; intro A6 c6 w6 ho6 hg6 _))
              have T6 := Lib.hid (T.out.app _ ho6 hg6)
              have cset := refSet_any (some ⟨g, 0, none⟩) n c1 (tookA img (freeTo img i)) i true _ T6.out.oi.reads HB.out.2 (by omega)
              rw [setI_turn HB.out.1] at cset
              clear ho6 hg6 T hsz cti
              go_wp2_with fail
              refine cset.mono ?_
              rintro e w8 ⟨g8, c9, rfl, hO8, hb8⟩
              have T8 := Lib.hid (T6.out.image hb8 hO8)
              clear hO8 hb8 T6 cset
              go_wp2_with (at_make; refine wpList_make_full _ rfl _ _ 53 rfl w8.heap.size 5 u0 _ 1 Tryz.underlying53 hu0 hz0 hz1 .i64 .i64 128 128 128 rfl rfl rfl rfl (by rw [hz2]; omega) (by simp only [maxLen]; omega) (Nat.le_refl _) ?_)
              intro w9 ho9 hg9
              have Y9 := made_byt ho9
              have hcv := Y9.conv (P := Tryz.prog) Tryz.underlying53 Tryz.underlying5 Tryz.underlying9 128 128 (by simp)
              rw [mkB_zeros] at hcv
              have hb9 : Below w8.heap.size w8 w9 := (Below.refl _ _).grown hg9 (Nat.le_refl _) (by intro k hk; cases hk)
              have T9 := Lib.hid (T8.out.step hb9)
              have cc := T9.out.oi.cell i hlt
              have ff := T9.out.oi.free i
              have TN : Hid (Tk w (w9.setCell ⟨g8, i, none⟩ (.string zeroB)) g8 n c9 (tookA img (freeTo img (i + 1))) A6 (k + 1) c6 (freeTo img (i + 1))) := Lib.hid (by
                have := T9.out.put i zeroB
                rw [HN.out, took_snoc]
                exact this)
              clear Y9 ho9 hg9 hb9 T8 T9
              go_wp2
              go_roundg (n - (i + 1))
              case measure => omega
              case rel => exact ⟨i + 1, k + 1, g8, c9, A6, c6, by omega, by omega, by omega, by omega, by go_num, rfl, rfl, TN⟩
          · have hkl : ¬ (k : Int) < (K : Int) := by omega
            have HEQ := Lib.hid (free_eq K i (by rw [HL.out]; exact hi) HK.out (by rw [T.out.len]; exact hkK) (.inr (by rw [T.out.len]; omega)))
            go_wp2
            go_ret3
            rw [HE.out, ← HEQ.out]
            exact ⟨_, n, c1, A8, k, c8, rfl, T.out.oi.reads, h5, .of_own T.out.ol, by omega, T.out.below⟩
        · have : i = n := by omega
          subst this
          have HEQ := Lib.hid (free_eq K i (by rw [HL.out]; exact hi) HK.out (by rw [T.out.len]; exact hkK) (.inl HL.out.symm))
          go_wp2
          go_ret3
          rw [HE.out, ← HEQ.out]
          exact ⟨_, i, c1, A8, k, c8, rfl, T.out.oi.reads, h5, .of_own T.out.ol, by omega, T.out.below⟩

end Go.Proofs.YtpdfkakhahfcjaaGreat
