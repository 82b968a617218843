/-
  AllocBack is true of every image, every number.
-/
import Derived.Test.YtihmgamdnmipaaaAllocLawT
namespace Go.Proofs.Ytihmgamdnmipaaa
open Go.RowKit

/-- What is taken and given back. -/
theorem back_fit {img : List ByteArray} (h : FitA img) {K : Nat} (hK : K ≤ (freeA img).length) :
    ∃ b, giveA (tookA img ((freeA img).take K)) (((freeA img).take K).map fun k : Nat => (k : Int)) = (b, 0) ∧ FitA b ∧ b.length = img.length ∧ blk b 1 = blk img 1 := by
  have hm := h.map
  have hf := first_le h.1.1 h.1.2
  have hin : ∀ k ∈ (freeA img).take K, 2 ≤ k ∧ k < 1024 := fun k hk => free_in hm (List.mem_of_mem_take hk) (Nat.le_refl _)
  have hmem : ∀ k ∈ (freeA img).take K, firstA img.length ≤ k ∧ k < img.length ∧ bitA (blk img 1) k = false := fun k hk => by
    have := freeTo_mem.1 (List.mem_of_mem_take hk)
    exact ⟨this.2.1, this.1, this.2.2⟩
  have hnd : ((freeA img).take K).Nodup := (freeTo_nodup img img.length).sublist (List.take_sublist _ _)
  have ht := took_MapP hm ((freeA img).take K) (fun k hk => (hin k hk).1)
  have hb := took_bit hm hin hnd
  have hfit := took_fit h (n := K)
  generalize (freeA img).take K = L at hin hmem hnd ht hb hfit
  obtain ⟨b, h1, h2⟩ := gave_took ht.1 L hnd (fun k hk => ⟨(hin k hk).2, by rw [hb, if_pos hk, (hmem k hk).2.2]; rfl⟩)
  have hmap : L.foldl flipA (blk (tookA img L) 1) = blk img 1 := by
    rw [ht.2.2]
    exact fold_twice _ _ hnd (fun i hi => by rw [hm.2]; have := (hin i hi).2; omega)
  rw [hmap] at h2
  have hbl : b.length = img.length := by rw [h2, List.length_set]; exact ht.2.1
  have hb1 : blk b 1 = blk img 1 := by rw [h2]; exact blk_set_self (by rw [ht.2.1]; have := h.1; omega)
  refine ⟨b, ?_, ?_, hbl, hb1⟩
  · rw [giveA_in (fun x hx => by
      obtain ⟨k, hk, rfl⟩ := List.mem_map.1 hx
      unfold outA
      rw [ht.2.1]
      have := hmem k hk
      omega), h1]
  · refine ⟨by rw [hbl]; exact h.1, fun s hs => ?_, ?_, fun j hj => ?_⟩
    · rw [h2] at hs
      rcases List.mem_or_eq_of_mem_set hs with hs | rfl
      · exact hfit.2.1 s hs
      · exact hm.2
    · rw [hbl, h2, blk_set_ne (by decide), hfit.2.2.1, ht.2.1]
    · rw [hbl, hb1]; exact h.2.2.2 j hj

set_option maxRecDepth 100000 in
set_option maxHeartbeats 4000000 in
theorem allocBack_any (A : Option Addr) (n c : Nat) (img : List ByteArray) (x : Int) (w : World) (hA : Reads w w.heap.size 1 A n (encS img)) (hn : n * 16 ≤ 140737488355328) (hx : x ≤ 9223372036854775807) :
    Calls Try.prog 5 #[.slice A n c, .int .i64 x] w fun e w' => e = .returned (.bool true) ∧ Below w.heap.size w w' := by
  have hmx : Try.prog.follows .mixedOrders = true := by kernel_rfl
  have G0 := Lib.hid ((Bag.nil w).add hA)
  by_cases hf : FitA img
  · have hl := hA.lenS
    have h5 : n ≤ 512 := by have := hf.1; omega
    have h8 : 8 ≤ n := by have := hf.1; omega
    have ht : decide (FitA img) = true := decide_eq_true hf
    have HM := Lib.hid hf.map
    have cT := fun A c W hW => takeA_any A n c img x W hW HM.out hx
    have cF := fun A c W hW => freeA_any A n c img W hW HM.out
    by_cases h0 : x < 0
    · rw [show takeA img x = (img, [], 13) by unfold takeA; rw [if_pos h0]] at cT
      dsimp only at cT
      clear hA hf hl
      go_enter Try.func5, Try.ntmps5
      go_wp2_with fail
      refine (refFit_anyA _ _ _ img _ (G0.out.get A n (encS img) (by simp)) hn).mono ?_
      rintro e w1 ⟨rfl, hb⟩
      rw [ht]
      have G1 := Lib.hid (G0.out.step hb)
      clear G0 hb ht
      go_wp2_with fail
      refine (cT _ _ _ (G1.out.get A n (encS img) (by simp))).mono ?_
      rintro e w3 ⟨A3, n3, c3, B3, k3, q3, rfl, _, hn3, _, hk3, hb⟩
      have G3 := Lib.hid (G1.out.step hb)
      clear G1 hb cT
      go_wp2_with fail
      refine (awake4_any _).mono ?_
      rintro e w2 ⟨rfl, hb⟩
      have G2 := Lib.hid (G3.out.step hb)
      clear G3 hb
      go_wp2
      go_ret
      exact ⟨rfl, G2.out.below⟩
    · obtain ⟨K, rfl⟩ : ∃ K : Nat, x = K := ⟨x.toNat, by omega⟩
      by_cases hK : K ≤ (freeA img).length
      · obtain ⟨L, hL⟩ : ∃ L, L = (freeA img).take K := ⟨_, rfl⟩
        obtain ⟨b, hgv, hfb, hbl, hb1⟩ := back_fit hf hK
        have hfree := took_free hf hK
        have hfa := took_fit hf (n := K)
        have hin : ∀ k ∈ (freeA img).take K, 2 ≤ k ∧ k < 1024 := fun k hk => free_in hf.map (List.mem_of_mem_take hk) (Nat.le_refl _)
        have hmem : ∀ k ∈ (freeA img).take K, firstA img.length ≤ k ∧ k < img.length ∧ bitA (blk img 1) k = false := fun k hk => by
          have := freeTo_mem.1 (List.mem_of_mem_take hk)
          exact ⟨this.2.1, this.1, this.2.2⟩
        have hnd : ((freeA img).take K).Nodup := (freeTo_nodup img img.length).sublist (List.take_sublist _ _)
        have hlt : ((freeA img).take K).Pairwise (· < ·) := (freeTo_lt img img.length).sublist (List.take_sublist _ _)
        have hbit := took_bit hf.map hin hnd
        have htl := (took_MapP hf.map ((freeA img).take K) (fun k hk => (hin k hk).1)).2.1
        have hlen : ((freeA img).take K).length = K := by rw [List.length_take]; omega
        rw [show takeA img (K : Int) = (tookA img L, L, 0) by unfold takeA; rw [if_neg h0, if_neg (by omega), Int.toNat_natCast, hL]] at cT
        rw [← hL] at hgv hfree hfa hmem hlt hbit htl hlen
        have hK5 : K ≤ 512 := by have := freeTo_len (img := img) img.length; unfold freeA at hK; omega
        obtain ⟨ta, hta⟩ : ∃ t, t = tookA img L := ⟨_, rfl⟩
        rw [← hta] at cT hgv hfree hfa hbit htl
        have cFa := fun A n c W hW => freeA_any A n c ta W hW hfa.map
        rw [hfree] at cFa
        have HFA := Lib.hid hfa
        have HFB := Lib.hid hfb
        have cG := fun A n c B m cm W hW hB hm => giveA_any A B n c m cm ta (L.map fun k : Nat => (k : Int)) W hW HFA.out.map hB hm
        rw [hgv, encI_nat] at cG
        obtain ⟨fr, hfr⟩ : ∃ fr, fr = (freeA img).length := ⟨_, rfl⟩
        rw [← hfr] at cF cFa hK
        have HLT : Hid (∀ i, i < K → (firstA n ≤ L.getD i 0 ∧ L.getD i 0 < n ∧ bitA (blk img 1) (L.getD i 0) = false ∧ takenA ta (L.getD i 0 : Nat) = true ∧ takenA img (L.getD i 0 : Nat) = false) ∧ (0 < i → L.getD (i - 1) 0 < L.getD i 0)) := Lib.hid (fun i hi => by
          have hm := List.mem_of_getElem? (nat_get (l := L) (k := i) (by omega))
          have h2 := hmem _ hm
          refine ⟨⟨by rw [← hl]; exact h2.1, by rw [← hl]; exact h2.2.1, h2.2.2, ?_, ?_⟩, fun h0 => ?_⟩
          · rw [takenA_in (by rw [htl]; exact h2.2.1), hbit, if_pos hm, h2.2.2]; rfl
          · rw [takenA_in h2.2.1]; exact h2.2.2
          · rw [List.pairwise_iff_getElem] at hlt
            have := hlt (i - 1) i (by omega) (by omega) (by omega)
            rw [List.getD_eq_getElem?_getD, List.getD_eq_getElem?_getD, List.getElem?_eq_getElem (by omega), List.getElem?_eq_getElem (by omega)]
            exact this)
        obtain ⟨F, hF⟩ : ∃ F, F = firstA n := ⟨_, rfl⟩
        have cP := fun A c W => first_any A n c (by unfold maxLen; omega) W
        rw [← hF] at cP HLT
        have HLL := Lib.hid (And.intro hlen htl)
        have hsub : (fr : Int) - (K : Int) = ((fr - K : Nat) : Int) := by omega
        have hfr5 : fr ≤ 512 := by have := freeTo_len (img := img) img.length; rw [hfr]; unfold freeA; omega
        have tfa : decide (FitA ta) = true := decide_eq_true hfa
        have tfb : decide (FitA b) = true := decide_eq_true hfb
        have HB := Lib.hid (And.intro hbl hb1)
        dsimp only at cT cG
        have HL0 := Lib.hid hl
        clear hA hf hl hL hta hgv hfree hfa hfb hin hmem hnd hlt hbit htl hlen hF hbl hb1 hfr
        go_enter Try.func5, Try.ntmps5
        go_wp2_with fail
        refine (refFit_anyA _ _ _ img _ (G0.out.get A n (encS img) (by simp)) hn).mono ?_
        rintro e w1 ⟨rfl, hb⟩
        rw [ht]
        have G1 := Lib.hid (G0.out.step hb)
        clear G0 hb ht
        go_wp2_with fail
        refine (cT _ _ _ (G1.out.get A n (encS img) (by simp))).mono ?_
        rintro e w3 ⟨A3, n3, c3, B3, k3, q3, rfl, hr, hn3, hs, hk3, hb⟩
        obtain rfl : k3 = K := by rw [← hs.lenN]; exact HLL.out.1
        obtain rfl : n3 = n := by rw [← hr.lenS, HLL.out.2, HL0.out]
        have G3 := Lib.hid (((G1.out.step hb).add hr).add hs)
        clear G1 hr hs hb cT
        go_wp2_with fail
        refine (fitA_any _ _ _ ta _ (G3.out.get A3 n3 (encS ta) (by simp)) hn).mono ?_
        rintro e w4 ⟨rfl, hb⟩
        rw [tfa]
        have G4 := Lib.hid (G3.out.step hb)
        clear G3 hb tfa
        have ek : ((k3 : Int) != (k3 : Int)) = false := by simp
        go_wp2_with fail
        refine (cFa _ _ _ _ (G4.out.get A3 n3 (encS ta) (by simp))).mono ?_
        rintro e w5 ⟨rfl, hb⟩
        have G5 := Lib.hid (G4.out.step hb)
        clear G4 hb
        go_wp2_with fail
        refine (cF _ _ _ (G5.out.get A n3 (encS img) (by simp))).mono ?_
        rintro e w6 ⟨rfl, hb⟩
        have G6 := Lib.hid (G5.out.step hb)
        clear G5 hb
        have efr : (((fr - k3 : Nat) : Int) != ((fr - k3 : Nat) : Int)) = false := by simp
        have HSUB := Lib.hid hsub
        generalize hfk : fr - k3 = fk at hsub efr ⊢
        clear hfk
        go_wp2
        go_loopg [55] k3 (fun gk s55 wr => ∃ i : Nat, i ≤ k3 ∧ k3 - i ≤ gk ∧ s55 = .int .i64 i ∧ w6 = wr)
        case atStart => exact ⟨0, Nat.zero_le _, by omega, rfl, rfl⟩
        case round =>
          obtain ⟨i, hi, hgk, rfl, rfl⟩ := hrel
          by_cases hlt : i < k3
          · have hil : (i : Int) < (k3 : Int) := by omega
            have h1 := HLT.out i hlt
            obtain ⟨b1, o1, e1, _, g1⟩ := (G6.out.get B3 k3 (encN L) (by simp)).nat hlt
            subst e1
            have ck1 := takenA_any A3 n3 c3 ta (L.getD i 0 : Nat) _ (G6.out.get A3 n3 (encS ta) (by simp)) HFA.out.map
            have ck2 := takenA_any A n3 c img (L.getD i 0 : Nat) _ (G6.out.get A n3 (encS img) (by simp)) HM.out
            rw [h1.1.2.2.2.1] at ck1
            rw [h1.1.2.2.2.2] at ck2
            have g0 : 0 < i → w6.cell? ⟨b1, o1 + (i - 1), none⟩ = some (.int .i64 (L.getD (i - 1) 0 : Nat)) := fun h0 => by
              obtain ⟨b2, o2, e2, _, g2⟩ := (G6.out.get (some ⟨b1, o1, none⟩) k3 (encN L) (by simp)).nat (k := i - 1) (by omega)
              injection e2 with e2; injection e2 with e2 e3; subst e2; subst e3
              exact g2
            have hFX := h1.1.1
            have hlt0 := h1.2
            generalize L.getD i 0 = X at g1 ck1 ck2 hFX hlt0
            generalize L.getD (i - 1) 0 = Y at g0 hlt0
            have d1 : ¬ (X : Int) < (F : Int) := by omega
            clear h1
            by_cases h0 : 0 < i
            · have g0' := g0 h0
              have hYX := hlt0 h0
              have d2 : (0 : Int) < (i : Int) := by omega
              have d3 : ¬ (X : Int) ≤ (Y : Int) := by omega
              clear g0 hlt0
              go_wp2_with fail
              refine ck1.mono ?_
              rintro e w8 ⟨rfl, rfl⟩
              go_wp2_with fail
              refine ck2.mono ?_
              rintro e w8 ⟨rfl, rfl⟩
              go_wp2_with (go_at_call 26; refine (cP _ _ _).mono ?_; rintro e w8 ⟨rfl, rfl⟩)
              go_roundg (k3 - (i + 1))
              case measure => omega
              case rel => exact ⟨i + 1, by omega, by omega, by go_num, rfl⟩
            · obtain rfl : i = 0 := by omega
              clear g0 hlt0
              rw [Nat.add_zero] at g1
              go_wp2_with fail
              refine ck1.mono ?_
              rintro e w8 ⟨rfl, rfl⟩
              go_wp2_with fail
              refine ck2.mono ?_
              rintro e w8 ⟨rfl, rfl⟩
              go_wp2_with (go_at_call 26; refine (cP _ _ _).mono ?_; rintro e w8 ⟨rfl, rfl⟩)
              go_roundg (k3 - (0 + 1))
              case measure => omega
              case rel => exact ⟨0 + 1, by omega, by omega, by go_num, rfl⟩
          · have : i = k3 := by omega
            subst this
            go_wp2_with fail
            refine (cG _ _ _ _ _ _ _ (G6.out.get A3 n3 (encS ta) (by simp)) (G6.out.get B3 i (encN L) (by simp)) (by omega)).mono ?_
            rintro e w7 ⟨A7, n7, c7, rfl, hr, hn7, hb⟩
            obtain rfl : n7 = n3 := by rw [← hr.lenS, HB.out.1, HL0.out]
            have G7 := Lib.hid ((G6.out.step hb).add hr)
            clear G6 hr hb cG
            obtain ⟨p1, q1, e1, hp1, g1⟩ := (G7.out.get A7 n7 (encS b) (by simp)).str (k := 1) (by omega)
            obtain ⟨p2, q2, e2, hp2, g2⟩ := (G7.out.get A n7 (encS img) (by simp)).str (k := 1) (by omega)
            subst e1; subst e2
            rw [HB.out.2] at g1
            generalize blk img 1 = mp at g1 g2
            have heq : (mp.toList == mp.toList) = true := by simp
            have h1n : 1 < n7 := by omega
            have d1n : decide ((1 : Int) < (n7 : Int)) = true := decide_eq_true (by omega)
            have d1m : decide (1 < n7) = true := decide_eq_true h1n
            have cfb := fun W hW => fitA_any (some ⟨p1, q1, none⟩) n7 c7 b W hW hn
            rw [tfb] at cfb
            have RB := G7.out.get (some ⟨p1, q1, none⟩) n7 (encS b) (by simp)
            go_wp2
            refine regionA (w0 := w7) (Below.refl _ _) hmx (by kernel_rfl) ?_
            repeat (first
              | go_big_quiet_skip
              | (go_big_quiet_want; go_big_quiet_op; first
                  | go_big_quiet_on
                  | (refine ⟨_, fun _ _ => rfl, ?_⟩; go_big_quiet_on)
                  | (refine ⟨.string mp, fun w5 hw5 => ?_, ?_⟩
                     · first
                        | (rw [(hw5.cell (p := ⟨p1, q1 + 1, none⟩) hp1).trans g1]; exact ⟨rfl, rfl⟩)
                        | (rw [(hw5.cell (p := ⟨p2, q2 + 1, none⟩) hp2).trans g2]; exact ⟨rfl, rfl⟩)
                     go_big_quiet_on)
                  | (apply Exists.intro
                     refine ⟨fun w5 hw5 => ?_, ?_⟩
                     · first
                        | (refine (cfb _ (RB.step hw5)).mono ?_; rintro e w6 ⟨rfl, hbx⟩; exact ⟨rfl, bstep hw5 hbx⟩)
                        | (refine (awake4_any _).mono ?_; rintro e w6 ⟨rfl, hbx⟩; exact ⟨rfl, bstep hw5 hbx⟩)
                     go_big_quiet_on)))
            refine wpQuiet_nil ?_
            intro w8 hw8
            go_wp2
            go_ret
            exact ⟨rfl, bstep G7.out.below hw8⟩
      · rw [show takeA img (K : Int) = (img, [], 18) by unfold takeA; rw [if_neg h0, if_pos (by omega)]] at cT
        generalize (freeA img).length = fr at cF hK
        have hkk : (fr : Int) < (K : Int) := by omega
        dsimp only at cT
        clear hA hf hl
        go_enter Try.func5, Try.ntmps5
        go_wp2_with fail
        refine (refFit_anyA _ _ _ img _ (G0.out.get A n (encS img) (by simp)) hn).mono ?_
        rintro e w1 ⟨rfl, hb⟩
        rw [ht]
        have G1 := Lib.hid (G0.out.step hb)
        clear G0 hb ht
        go_wp2_with fail
        refine (cT _ _ _ (G1.out.get A n (encS img) (by simp))).mono ?_
        rintro e w3 ⟨A3, n3, c3, B3, k3, q3, rfl, _, hn3, _, hk3, hb⟩
        have G3 := Lib.hid (G1.out.step hb)
        clear G1 hb cT
        go_wp2_with fail
        refine (cF _ _ _ (G3.out.get A n (encS img) (by simp))).mono ?_
        rintro e w4 ⟨rfl, hb⟩
        have G4 := Lib.hid (G3.out.step hb)
        clear G3 hb
        go_wp2_with fail
        refine (awake4_any _).mono ?_
        rintro e w2 ⟨rfl, hb⟩
        have G2 := Lib.hid (G4.out.step hb)
        clear G4 hb
        go_wp2
        go_ret
        exact ⟨rfl, G2.out.below⟩
  · have ht : decide (FitA img) = false := decide_eq_false hf
    clear hA hf
    go_enter Try.func5, Try.ntmps5
    go_wp2_with fail
    refine (refFit_anyA _ _ _ img _ (G0.out.get A n (encS img) (by simp)) hn).mono ?_
    rintro e w1 ⟨rfl, hb⟩
    rw [ht]
    have G1 := Lib.hid (G0.out.step hb)
    clear G0 hb ht
    go_wp2_with fail
    refine (awake4_any _).mono ?_
    rintro e w2 ⟨rfl, hb⟩
    have G2 := Lib.hid (G1.out.step hb)
    clear G1 hb
    go_wp2
    go_ret
    exact ⟨rfl, G2.out.below⟩

end Go.Proofs.Ytihmgamdnmipaaa
