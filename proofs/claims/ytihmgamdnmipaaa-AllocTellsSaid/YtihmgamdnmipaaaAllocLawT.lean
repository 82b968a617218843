/-
  AllocTells is true of every image, every numbers.
-/
import Derived.Test.YtihmgamdnmipaaaAllocAwake
namespace Go.Proofs.Ytihmgamdnmipaaa
open Go.RowKit

/-- What is read from step to step: slices that read as lists of cells. -/
structure Bag (w0 w : World) (T : List (Option Addr × Nat × List Value)) : Prop where
  reads : ∀ t ∈ T, Reads w w.heap.size 1 t.1 t.2.1 t.2.2
  below : Below w0.heap.size w0 w
section
variable {w0 w w' : World} {T : List (Option Addr × Nat × List Value)} {A : Option Addr} {n : Nat} {xs : List Value}
theorem Bag.nil (w : World) : Bag w w [] := ⟨fun _ h => absurd h (by simp), Below.refl _ _⟩
theorem Bag.step (h : Bag w0 w T) (hb : Below w.heap.size w w') : Bag w0 w' T := ⟨fun t ht => (h.reads t ht).step hb, bstep h.below hb⟩
theorem Bag.add (h : Bag w0 w T) (hr : Reads w w.heap.size 1 A n xs) : Bag w0 w ((A, n, xs) :: T) := ⟨fun t ht => by
  rcases List.mem_cons.1 ht with rfl | ht
  · exact hr
  · exact h.reads t ht, h.below⟩
theorem Bag.drewN (h : Bag w0 w T) (q : Nat) : Bag w0 (w.drewN q) T := ⟨fun t ht => h.reads t ht, below_drewN h.below q⟩
theorem Bag.get (h : Bag w0 w T) (A : Option Addr) (n : Nat) (xs : List Value) (hm : (A, n, xs) ∈ T) : Reads w w.heap.size 1 A n xs := h.reads _ hm
end

set_option maxRecDepth 100000 in
set_option maxHeartbeats 4000000 in
theorem allocTells_any (A : Option Addr) (n c : Nat) (img : List ByteArray) (x : Int) (B : Option Addr) (m cm : Nat) (l : List Int) (y : Int) (w : World) (hA : Reads w w.heap.size 1 A n (encS img)) (hn : n * 16 ≤ 140737488355328) (hx : x ≤ 9223372036854775807) (hB : Reads w w.heap.size 1 B m (encI l)) (hm : m ≤ 17592186044416) :
    Calls Try.prog 4 #[.slice A n c, .int .i64 x, .slice B m cm, .int .i64 y] w fun e w' => e = .returned (.bool true) ∧ Below w.heap.size w w' := by
  have G0 := Lib.hid (((Bag.nil w).add hB).add hA)
  by_cases hf : FitA img
  · have hl := hA.lenS
    have h5 : n ≤ 512 := by have := hf.1; omega
    have ht : decide (FitA img) = true := decide_eq_true hf
    have HM := Lib.hid hf.map
    have cT := fun A c W hW => takeA_any A n c img x W hW HM.out hx
    have cR := fun A c W hW => refTake_any A n c img x W hW HM.out
    generalize takeA img x = tk at cT cR
    obtain ⟨ta, tl, te⟩ := tk
    have cG := fun A c W hW hB => giveA_any A B n c m cm img l W hW HM.out hB hm
    have cH := fun A c W hW hB => refGive_any A B n c m cm img l W hW HM.out hB hm
    generalize giveA img l = gv at cG cH
    obtain ⟨ga, ge⟩ := gv
    have cK := fun A c W hW => takenA_any A n c img y W hW HM.out
    have cL := fun A c W hW => refTaken_any A n c img y W hW HM.out
    obtain ⟨tb, htb⟩ : ∃ b, b = takenA img y := ⟨_, rfl⟩
    rw [← htb] at cK cL
    have cF := fun A c W hW => freeA_any A n c img W hW HM.out
    have cE := fun A c W hW => refFree_any A n c img W hW HM.out
    generalize (freeA img).length = fr at cF cE
    have cI := fun A c W => inodes_any A n c (by unfold maxLen; omega) W
    have cJ := fun A c W => refInodes_any A n c (by unfold maxLen; omega) W
    generalize cntA n = cn at cI cJ
    have cP := fun A c W => first_any A n c (by unfold maxLen; omega) W
    have cQ := fun A c W => refFirst_any A n c (by unfold maxLen; omega) W
    generalize firstA n = fi at cP cQ
    have e1 : (te == te) = true := by simp
    have e2 : (ge == ge) = true := by simp
    have e3 : (tb == tb) = true := by simp
    have e4 : ((fr : Int) == (fr : Int)) = true := by simp
    have e5 : ((cn : Int) == (cn : Int)) = true := by simp
    have e6 : ((fi : Int) == (fi : Int)) = true := by simp
    have d1 : decide (ta = ta) = true := decide_eq_true rfl
    have d2 : decide (tl = tl) = true := decide_eq_true rfl
    have d3 : decide (ga = ga) = true := decide_eq_true rfl
    have d4 : decide (img = img) = true := decide_eq_true rfl
    dsimp only at cT cR cG cH
    clear hA hB hf hl htb
    go_enter Try.func4, Try.ntmps4
    go_wp2_with fail
    refine (refFit_anyA _ _ _ img _ (G0.out.get A n (encS img) (by simp)) hn).mono ?_
    rintro e w1 ⟨rfl, hb⟩
    rw [ht]
    have G1 := Lib.hid (G0.out.step hb)
    clear G0 hb ht
    go_wp2_with fail
    refine (refOwn_any _ _ _ img _ (G1.out.get A n (encS img) (by simp)) hn).mono ?_
    rintro e w2 ⟨A2, c2, rfl, ho, hb⟩
    have G2 := Lib.hid ((G1.out.step hb).add (Reads.of_own ho))
    clear G1 ho hb
    go_wp2_with fail
    refine (cT _ _ _ (G2.out.get A2 n (encS img) (by simp))).mono ?_
    rintro e w3 ⟨A3, n3, c3, B3, k3, q3, rfl, hr, hn3, hs, hk3, hb⟩
    have G3 := Lib.hid (((G2.out.step hb).add hr).add hs)
    clear G2 hr hs hb cT
    go_wp2_with fail
    refine (cR _ _ _ (G3.out.get A n (encS img) (by simp))).mono ?_
    rintro e w4 ⟨A4, n4, c4, B4, k4, q4, rfl, hr, hn4, hs, hk4, hb⟩
    have G4 := Lib.hid (((G3.out.step hb).add hr).add hs)
    clear G3 hr hs hb cR
    go_wp2_with fail
    refine (cG _ _ _ (G4.out.get A2 n (encS img) (by simp)) (G4.out.get B m (encI l) (by simp))).mono ?_
    rintro e w5 ⟨A5, n5, c5, rfl, hr, hn5, hb⟩
    have G5 := Lib.hid ((G4.out.step hb).add hr)
    clear G4 hr hb cG
    go_wp2_with fail
    refine (cH _ _ _ (G5.out.get A n (encS img) (by simp)) (G5.out.get B m (encI l) (by simp))).mono ?_
    rintro e w6 ⟨A6, n6, c6, rfl, hr, hn6, hb⟩
    have G6 := Lib.hid ((G5.out.step hb).add hr)
    clear G5 hr hb cH
    go_wp2_with fail
    refine (refTexts_any _ _ _ _ _ _ ta ta _ (G6.out.get A3 n3 (encS ta) (by simp)) (G6.out.get A4 n4 (encS ta) (by simp)) (by omega) (by omega)).mono ?_
    rintro e w7 ⟨rfl, hb⟩
    have G7 := Lib.hid (G6.out.step hb)
    clear G6 hb
    go_wp2_with fail
    refine (refInts_any _ _ _ _ _ _ tl tl _ (G7.out.get B3 k3 (encN tl) (by simp)) (G7.out.get B4 k4 (encN tl) (by simp)) (by omega) (by omega)).mono ?_
    rintro e w8 ⟨rfl, q, rfl⟩
    have G8 := Lib.hid (G7.out.drewN q)
    clear G7
    generalize w7.drewN q = w8 at G8 ⊢
    go_wp2_with fail
    refine (refTexts_any _ _ _ _ _ _ ga ga _ (G8.out.get A5 n5 (encS ga) (by simp)) (G8.out.get A6 n6 (encS ga) (by simp)) (by omega) (by omega)).mono ?_
    rintro e w9 ⟨rfl, hb⟩
    have G9 := Lib.hid (G8.out.step hb)
    clear G8 hb
    go_wp2_with fail
    refine (cK _ _ _ (G9.out.get A2 n (encS img) (by simp))).mono ?_
    rintro e w10 ⟨rfl, rfl⟩
    go_wp2_with fail
    refine (cL _ _ _ (G9.out.get A n (encS img) (by simp))).mono ?_
    rintro e w10 ⟨rfl, rfl⟩
    go_wp2_with fail
    refine (cF _ _ _ (G9.out.get A2 n (encS img) (by simp))).mono ?_
    rintro e w10 ⟨rfl, hb⟩
    have G10 := Lib.hid (G9.out.step hb)
    clear G9 hb
    go_wp2_with fail
    refine (cE _ _ _ (G10.out.get A n (encS img) (by simp))).mono ?_
    rintro e w11 ⟨rfl, rfl⟩
    go_wp2_with (first | (go_at_call 26; refine (cP _ _ _).mono ?_; rintro e w11 ⟨rfl, rfl⟩) | (go_at_call 27; refine (cQ _ _ _).mono ?_; rintro e w11 ⟨rfl, rfl⟩) | (go_at_call 28; refine (cI _ _ _).mono ?_; rintro e w11 ⟨rfl, rfl⟩) | (go_at_call 29; refine (cJ _ _ _).mono ?_; rintro e w11 ⟨rfl, rfl⟩))
    refine (refTexts_any _ _ _ _ _ _ img img _ (G10.out.get A2 n (encS img) (by simp)) (G10.out.get A n (encS img) (by simp)) hn hn).mono ?_
    rintro e w12 ⟨rfl, hb⟩
    have G12 := Lib.hid (G10.out.step hb)
    clear G10 hb
    go_wp2_with fail
    refine (awake4_any _).mono ?_
    rintro e w13 ⟨rfl, hb⟩
    have G13 := Lib.hid (G12.out.step hb)
    clear G12 hb
    go_wp2
    go_ret
    exact ⟨rfl, G13.out.below⟩
  · have ht : decide (FitA img) = false := decide_eq_false hf
    clear hA hB hf
    go_enter Try.func4, Try.ntmps4
    go_wp2_with fail
    refine (refFit_anyA _ _ _ img _ (G0.out.get A n (encS img) (by simp)) hn).mono ?_
    rintro e w1 ⟨rfl, hb⟩
    rw [ht]
    have G1 := Lib.hid (G0.out.step hb)
    clear G0 hb ht
    go_wp2_with fail
    refine (awake4_any _).mono ?_
    rintro e w2 ⟨rfl, hb⟩
    have G2 := Lib.hid (G1.out.step hb)
    clear G1 hb
    go_wp2
    go_ret
    exact ⟨rfl, G2.out.below⟩

end Go.Proofs.Ytihmgamdnmipaaa
