/-
  The reference's Recover, where the head may be a commit block.
-/
import Derived.Test.YtlmapbipgdhoiaaG35
import Derived.Test.YtlmapbipgdhoiaaG27
namespace Go.Proofs.Ytlmapbipgdhoiaa
open Go.RowKit

theorem stepsL_succ (f : Nat → Int) (b : Nat → ByteArray) (i : Nat) (x : D × Int) : runD x (stepsL f b (i + 1)) = stepD (runD x (stepsL f b i)) (.put (f i) (b i)) := by
  unfold stepsL
  rw [List.range_succ, List.map_append, runD_app]
  rfl
theorem keepRB {w W W' : World} {A A' : Option Addr} {n c m c' : Nat} {bs : List ByteArray} {cs : List (Int × ByteArray)} {l : Int} (R : RB w W A A' n c m c' ⟨bs, cs, l, false⟩) (hb : Below W.heap.size W W') :
    W'.cell? ⟨w.heap.size, 0, none⟩ = some (.slice A n c) ∧ W'.cell? ⟨w.heap.size, 1, none⟩ = some (.slice A' m c') ∧ W'.cell? ⟨w.heap.size, 2, none⟩ = some (.int .i64 l) ∧ W'.cell? ⟨w.heap.size, 3, none⟩ = some (.bool false) ∧ Below W.heap.size W W' := by
  obtain ⟨x0, x1, x2, x3, _⟩ := (R.step hb).b0.cells
  exact ⟨x0, x1, x2, x3, hb⟩
theorem lastRB {a b c d p : Prop} (x : a ∧ b ∧ c ∧ d ∧ p) : p := x.2.2.2.2
theorem flatL_snoc (L : List ByteArray) (s : ByteArray) : mkB (flatL (L ++ [s])) = mkB (flatL L) ++ s := by
  unfold flatL
  rw [List.flatMap_append, ← mkB_app]
  congr 1
  simp [mkB]
theorem Rw.drewR {w : World} {g : Nat} {v : RV} {x : D × Int} (h : Rw w g v x) : Rw w.drew g v x := ⟨h.blk, ⟨h.dv.bs, h.dv.cs, h.dv.hn, h.dv.hm⟩⟩
theorem Dv.drewR {w : World} {A A' : Option Addr} {n m : Nat} {d : D} (h : Dv w w.heap.size A n A' m d) : Dv w.drew w.drew.heap.size A n A' m d := ⟨h.bs, h.cs, h.hn, h.hm⟩
theorem putD_keep {w : World} {g q : Nat} {v : RV} {x : D × Int} {a b c d : Value} (h : Rw w g v x) (hq : g ≠ q) : (putD w q a b c d).cell? ⟨g, 0, none⟩ = some (.slice v.A v.n v.c) ∧ (putD w q a b c d).cell? ⟨g, 1, none⟩ = some (.slice v.A' v.m v.c') ∧ (putD w q a b c d).cell? ⟨g, 2, none⟩ = some (.int .i64 x.1.left) ∧ (putD w q a b c d).cell? ⟨g, 3, none⟩ = some (.bool x.1.dead) ∧ (putD w q a b c d).cell? ⟨g, 4, none⟩ = some (.int .i64 x.2) := by
  have hb : (putD w q a b c d).heap[g]? = w.heap[g]? := by
    unfold putD
    rw [Below.heap_setCell _ ⟨q, 3, none⟩ d g hq, Below.heap_setCell _ ⟨q, 2, none⟩ c g hq, Below.heap_setCell _ ⟨q, 1, none⟩ b g hq, Below.heap_setCell _ ⟨q, 0, none⟩ a g hq]
  have e : ∀ o, (putD w q a b c d).cell? ⟨g, o, none⟩ = w.cell? ⟨g, o, none⟩ := fun o => World.cell?_of_block (a := ⟨g, o, none⟩) hb
  rw [e, e, e, e, e]
  exact h.c
/-- While the reference's work writes: the rows that it reads, the result's box, what lay before. -/
structure Lp (w wr : World) (B gw ga gb N c2 c3 : Nat) (pl : List Nat) (bl : List ByteArray) (x : D × Int) (vv : RV) : Prop where
  own1 : wr.ownsRow B 3 1 (.slice (some ⟨ga, 0, none⟩) N c2) N (encN pl)
  own2 : wr.ownsRow B 9 1 (.slice (some ⟨gb, 0, none⟩) N c3) N (encS bl)
  rw : Rw wr gw vv x
  b1 : B4 wr (w.heap.size + 1) (.slice none 0 0) (.slice none 0 0) (.int .i64 0) (.bool false)
  below : Below w.heap.size w wr
theorem Lp.grown {w wr w' : World} {B gw ga gb N c2 c3 : Nat} {pl : List Nat} {bl : List ByteArray} {x x2 : D × Int} {vv v2 : RV} (h : Lp w wr B gw ga gb N c2 c3 pl bl x vv) (hr : Rw w' gw v2 x2) (hg : wr.grownBy w' (some gw)) (h1 : ga ≠ gw) (h2 : gb ≠ gw) (h3 : w.heap.size + 1 < gw) : Lp w w' B gw ga gb N c2 c3 pl bl x2 v2 :=
  ⟨own_grown h.own1 hg (fun g e e2 => by cases e; cases e2; exact h1 rfl), own_grown h.own2 hg (fun g e e2 => by cases e; cases e2; exact h2 rfl), hr, h.b1.grown hg (fun e => by cases e; omega), h.below.grown hg h.below.size (fun q e => by cases e; omega)⟩
theorem Lp.step {w wr w' : World} {B gw ga gb N c2 c3 : Nat} {pl : List Nat} {bl : List ByteArray} {x : D × Int} {vv : RV} (h : Lp w wr B gw ga gb N c2 c3 pl bl x vv) (hb : Below wr.heap.size wr w') : Lp w w' B gw ga gb N c2 c3 pl bl x vv :=
  ⟨own_below h.own1 hb, own_below h.own2 hb, h.rw.step hb, h.b1.step hb, bstep h.below hb⟩
theorem oper_abs {P : Program} {o : Oper} {K : Act → World → Prop} {Q : Exit → Act → World → Prop} {w : World} (a : Act) (h : ∀ a0 : Act, a0 = a → Oper.wp P o a0 w K Q) : Oper.wp P o a w K Q := h a rfl
theorem grownBy_drew {w w' : World} {g : Nat} (h : w.drew.grownBy w' (some g)) : w.grownBy w' (some g) := grown_trans (grown_of_below ((Below.refl w.heap.size w).drew) (some g)) h

/-- What a recovery of the reference comes to behind the head. -/
def lateR (d : D) (h g : Nat) : D × Int :=
  if ∃ x ∈ plR d h, h ≤ x then (d, 10) else if crc (placesL (plR d h) ++ flatL (blR d h)) ≠ neL ((headB d).extract 14 18).data.toList then (d, 10)
  else runD (d, 0) (endSteps (1 + listsN h + g) (plR d h) (blR d h))

set_option maxRecDepth 100000 in
set_option maxHeartbeats 8000000 in
theorem refRec_late (A A' : Option Addr) (n c m c' : Nat) (bs : List ByteArray) (cs : List (Int × ByteArray)) (l : Int) (h g : Nat) (w : World) (H : Dv w w.heap.size A n A' m ⟨bs, cs, l, false⟩) (h0 : wrongE ⟨bs, cs, l, false⟩ h g = 0) (hz : headB ⟨bs, cs, l, false⟩ ≠ zeroB) (hs : (headB ⟨bs, cs, l, false⟩).size = 128)
    (hf : FitP ⟨bs, cs, l, false⟩) (hl : l ≤ 9223372036854775807) (hh : 1 ≤ h ∧ h ≤ 512) (hg : 1 ≤ g ∧ g ≤ 256) (hlen : bs.length = 1 + listsN h + g + h)
    (ha : ((headB ⟨bs, cs, l, false⟩).extract 0 4).data.toList = [65, 87, 76, 49]) (hb18 : (headB ⟨bs, cs, l, false⟩).data.toList.drop 18 = List.replicate 110 0) (hN : 1 ≤ cntN ⟨bs, cs, l, false⟩ ∧ cntN ⟨bs, cs, l, false⟩ ≤ g ∧ cntN ⟨bs, cs, l, false⟩ ≤ h) :
    Calls Try.prog 26 #[.agg #[.slice A n c, .slice A' m c', .int .i64 l, .bool false], .int .i64 h, .int .i64 g] w fun e w' => Tells2 w w' (lateR ⟨bs, cs, l, false⟩ h g).1 (lateR ⟨bs, cs, l, false⟩ h g).2 e := by
  have hmx : Try.prog.follows .mixedOrders = true := by kernel_rfl
  obtain ⟨i0, hi0, hz0, hz1, hz2⟩ := info_parts infoI
  obtain ⟨s0, hs0, hy0, hy1, hy2⟩ := info_parts infoS
  have R0 := Lib.hid (RB.new H c c')
  have cw := refWrong_any A A' n c m c' ⟨bs, cs, l, false⟩ h g _ R0.out.dv
  rw [h0] at cw
  have cr := fun (i : Int) W hW => refRead_any A A' n c m c' ⟨bs, cs, l, false⟩ i W hW
  have cr0 := cr 0
  obtain ⟨hb, hhb⟩ : ∃ hb, hb = headB ⟨bs, cs, l, false⟩ := ⟨_, rfl⟩
  rw [show (readD ⟨bs, cs, l, false⟩ 0).1 = hb from hhb.symm] at cr0
  generalize (readD ⟨bs, cs, l, false⟩ 0).2 = re at cr0
  have cn := fun W => refNe_any (hb.extract 12 14) W (by rw [ByteArray.size_extract]; omega)
  rw [show neL (hb.extract 12 14).data.toList = cntN ⟨bs, cs, l, false⟩ by rw [hhb]; rfl] at cn
  obtain ⟨u, hu⟩ : ∃ u, u = lateR ⟨bs, cs, l, false⟩ h g := ⟨_, rfl⟩
  rw [← hu]
  have HPL : Hid ((plR ⟨bs, cs, l, false⟩ h).length = cntN ⟨bs, cs, l, false⟩ ∧ plR ⟨bs, cs, l, false⟩ h = (List.range (cntN ⟨bs, cs, l, false⟩)).map (num2 (mkB (flatL (readL ⟨bs, cs, l, false⟩ 1 (listsN h))))) ∧ blR ⟨bs, cs, l, false⟩ h = readL ⟨bs, cs, l, false⟩ (1 + listsN h) (cntN ⟨bs, cs, l, false⟩)) := Lib.hid ⟨by simp [plR], rfl, rfl⟩
  unfold lateR at hu
  rw [← hhb] at hz hs ha hb18 hu
  generalize cntN ⟨bs, cs, l, false⟩ = N at hN cn HPL
  generalize plR ⟨bs, cs, l, false⟩ h = pl at hu HPL
  generalize blR ⟨bs, cs, l, false⟩ h = bl at hu HPL
  have HU := Lib.hid hu
  have HRS : Hid (∀ a k, a + k ≤ bs.length → ∀ s ∈ readL ⟨bs, cs, l, false⟩ a k, s.size = 128) := Lib.hid fun a k hk => readL_size hf rfl hk
  have HR1 : Hid (∀ i, i < bs.length → (readD ⟨bs, cs, l, false⟩ (i : Int)).1.size = 128) := Lib.hid fun i hi => readD_size hf rfl hi
  have HFL := Lib.hid (And.intro hf hl)
  obtain ⟨x0, x1, x2, x3, xf⟩ := R0.out.b0.cells
  dsimp only at x2 x3
  have heq : (hb.toList == zeroB.toList) = false := by
    rw [beq_eq_false_iff_ne]
    intro e
    exact hz (by
      rw [ByteArray.toList_eq, ByteArray.toList_eq] at e
      exact ByteArray.ext (Array.toList_inj.1 e))
  have t1 : ((hb.extract 0 4).toList == [65, 87, 76, 49]) = true := by
    rw [ByteArray.toList_eq, ha]; rfl
  have t2 : ((hb.extract 18 128).toList == (zeroB.extract 18 128).toList) = true := by
    have h18 : (hb.extract 18 128).toList = hb.data.toList.drop 18 := by
      rw [ByteArray.toList_eq, ByteArray.data_extract, Array.toList_extract, List.extract_eq_take_drop, List.take_of_length_le]
      rw [List.length_drop, Array.length_toList]
      have : hb.data.size = 128 := hs
      omega
    have hz18 : (zeroB.extract 18 128).toList = List.replicate 110 0 := by decide +kernel
    rw [h18, hz18, hb18]
    simp
  have hzs : zeroB.size = 128 := zeroB_size
  have hl8 : listsN h ≤ 8 := by unfold listsN; omega
  have hlh : h ≤ 64 * listsN h := by unfold listsN; omega
  have HL := Lib.hid (And.intro hlen (And.intro hl8 hlh))
  have cl : ∀ W : World, Calls Try.prog 55 #[.int .i64 h] W fun e w' => e = .returned (.int .i64 (listsN h : Nat)) ∧ W = w' := fun W => refLists_any h hh.2 W
  obtain ⟨ln, hln⟩ : ∃ ln, ln = listsN h := ⟨_, rfl⟩
  rw [← hln] at cl HL hl8 HPL HU
  clear H h0 hz ha hb18 hhb hf hl hu hlen hlh hln
  go_enter Try.func26, Try.ntmps26
  go_wp2_with fail
  refine cw.mono ?_
  rintro e w1 ⟨rfl, hb1⟩
  have R1 := Lib.hid (R0.out.step hb1)
  clear x0 x1 x2 x3 xf R0 hb1 cw
  obtain ⟨x0, x1, x2, x3, xf⟩ := R1.out.b0.cells
  dsimp only at x2 x3
  go_wp2_with fail
  refine (cr0 _ R1.out.dv).mono ?_
  rintro e w2 ⟨rfl, hb2⟩
  have R2 := Lib.hid (R1.out.step hb2)
  clear x0 x1 x2 x3 xf R1 hb2 cr0
  go_wp2_with fail
  refine (zeros_any _).mono ?_
  rintro e w3 ⟨rfl, hb3⟩
  have R3 := Lib.hid (R2.out.step hb3)
  clear R2 hb3
  go_wp2_with fail
  refine (cn _).mono ?_
  rintro e w4 ⟨rfl, rfl⟩
  have hw1 : IntKind.i64.wrap (N : Int) = (N : Int) := IntWalk.i64_in _ (by omega)
  go_wp2_with fail
  have n0 : decide ((N : Int) < 1) = false := decide_eq_false (by omega)
  have n1 : decide ((g : Int) < (N : Int)) = false := decide_eq_false (by omega)
  have n2 : decide ((h : Int) < (N : Int)) = false := decide_eq_false (by omega)
  have c0 : ¬ N < 1 := by omega
  have c1 : ¬ g < N := by omega
  have c2 : ¬ h < N := by omega
  refine region_belowR (w0 := w3) (Below.refl _ _) hmx (by kernel_rfl) ?_
  repeat (first
    | go_big_quiet_skip
    | (go_big_quiet_want; go_big_quiet_op; first
        | go_big_quiet_on
        | (refine ⟨_, fun _ _ => rfl, ?_⟩; go_big_quiet_on)
        | (apply Exists.intro
           refine ⟨fun w5 hw5 => ?_, ?_⟩
           · (refine (zeros_any _).mono ?_; rintro e w6 ⟨rfl, hbx⟩; exact ⟨rfl, bstep hw5 hbx⟩)
           go_big_quiet_on)))
  refine wpQuiet_nil ?_
  intro w7 hw7
  have R7 := Lib.hid (R3.out.step hw7)
  clear hw7 R3 t1 t2 n0 n1 n2 c0 c1 c2 heq hw1 hzs
  go_wp2
  go_loopg [12, 13] ln (fun gk s12 s13 wr => ∃ i : Nat, i ≤ ln ∧ ln - i ≤ gk ∧ s13 = .int .i64 i ∧ s12 = .string (mkB (flatL (readL ⟨bs, cs, l, false⟩ 1 i))) ∧ Hid (RB w wr A A' n c m c' ⟨bs, cs, l, false⟩))
  case atStart => exact ⟨0, Nat.zero_le _, by omega, rfl, rfl, R7⟩
  case round =>
    obtain ⟨i, hi, hgk, rfl, rfl, R⟩ := hrel
    by_cases hlt : i < ln
    · have hil : (i : Int) < (ln : Int) := by omega
      obtain ⟨x0, x1, x2, x3, xf⟩ := R.out.b0.cells
      dsimp only at x2 x3
      have HS : Hid (mkB (flatL (readL ⟨bs, cs, l, false⟩ 1 (i + 1))) = mkB (flatL (readL ⟨bs, cs, l, false⟩ 1 i)) ++ (readD ⟨bs, cs, l, false⟩ ((1 + i : Nat) : Int)).1) := Lib.hid (by rw [readL_succ, flatL_snoc])
      have hsz := HR1.out (1 + i) (by have := HL.out; omega)
      have hSz : (mkB (flatL (readL ⟨bs, cs, l, false⟩ 1 i))).size = 128 * i := by rw [mkB_size, flatL_length _ (HRS.out 1 i (by have := HL.out; omega)), readL_length]
      have hno : ¬ 9223372036854775807 < (mkB (flatL (readL ⟨bs, cs, l, false⟩ 1 i))).size + (readD ⟨bs, cs, l, false⟩ ((1 + i : Nat) : Int)).1.size := by omega
      have cq := cr ((1 + i : Nat) : Int)
      generalize mkB (flatL (readL ⟨bs, cs, l, false⟩ 1 i)) = S at hno HS
      generalize (readD ⟨bs, cs, l, false⟩ ((1 + i : Nat) : Int)).1 = s at hno HS cq
      generalize (readD ⟨bs, cs, l, false⟩ ((1 + i : Nat) : Int)).2 = rx at cq
      obtain ⟨q, hq⟩ : ∃ q, q = 1 + i := ⟨_, rfl⟩
      rw [← hq] at cq
      have hqi : (1 : Int) + (i : Int) = (q : Int) := by omega
      clear hq hsz hSz
      go_wp2_with (go_at_call 55; refine (cl _).mono ?_; rintro e w8 ⟨rfl, rfl⟩)
      refine (cq _ R.out.dv).mono ?_
      rintro e w8 ⟨rfl, hb8⟩
      have RN := Lib.hid (R.out.step hb8)
      clear x0 x1 x2 x3 xf R hb8 cq
      go_wp2
      go_roundg (ln - (i + 1))
      case measure => omega
      case rel => exact ⟨i + 1, by omega, by omega, by go_num, by rw [HS.out], RN⟩
    · have : i = ln := by omega
      subst this
      have HSL : Hid ((mkB (flatL (readL ⟨bs, cs, l, false⟩ 1 i))).data.toList.take (2 * N) = placesL pl) := Lib.hid (by
        rw [HPL.out.2.1]
        refine (placesL_num2 _ N ?_).symm
        rw [mkB_size, flatL_length _ (HRS.out 1 i (by have := HL.out; omega)), readL_length]
        have := HL.out; omega)
      have hSz : (mkB (flatL (readL ⟨bs, cs, l, false⟩ 1 i))).size = 128 * i := by rw [mkB_size, flatL_length _ (HRS.out 1 i (by have := HL.out; omega)), readL_length]
      have HPN : Hid (∀ k, k < N → pl.getD k 0 = num2 (mkB (flatL (readL ⟨bs, cs, l, false⟩ 1 i))) k) := Lib.hid (fun k hk => by rw [HPL.out.2.1]; simp [List.getD_eq_getElem?_getD, hk])
      generalize mkB (flatL (readL ⟨bs, cs, l, false⟩ 1 i)) = S at HSL hSz HPN
      obtain ⟨q2, hq2⟩ : ∃ q2, q2 = 2 * N := ⟨_, rfl⟩
      have s2 : (2 : Int) * (N : Int) = (q2 : Int) := by omega
      have hS2 : q2 ≤ S.size := by have := HL.out; omega
      have hq63 : q2 ≤ 1024 := by omega
      obtain ⟨P, hP⟩ : ∃ P, P = S.extract 0 q2 := ⟨_, rfl⟩
      have HPP : Hid (P = mkB (placesL pl) ∧ P.size = 2 * N) := Lib.hid (by
        have e1 : P.data.toList = placesL pl := by
          rw [hP, ByteArray.data_extract, Array.toList_extract, List.extract_eq_take_drop, List.drop_zero, Nat.sub_zero, hq2]
          exact HSL.out
        refine ⟨ByteArray.ext (Array.toList_inj.1 (e1.trans (mkB_list _).symm)), ?_⟩
        rw [hP, ByteArray.size_extract]
        omega)
      have HN2 : Hid (∀ k, k < N → neL (P.extract (2 * k) (2 * k + 2)).data.toList = pl.getD k 0) := Lib.hid (fun k hk => by
        rw [HPN.out k hk]
        unfold num2
        rw [hP, ByteArray.data_extract, ByteArray.data_extract, Array.toList_extract, Array.toList_extract, List.extract_eq_take_drop, List.extract_eq_take_drop, List.drop_zero, Nat.sub_zero, List.drop_take, List.take_take, hq2]
        congr 2
        omega)
      have HPV := Lib.hid hP.symm
      clear hq2 hP
      have hPs := HPP.out.2
      go_wp2_with (go_at_call 55; refine (cl _).mono ?_; rintro e w8 ⟨rfl, rfl⟩)
      rw [HPV.out]
      have hw7 := R.out.lt
      obtain ⟨wl, hwl⟩ : ∃ wl, wl = wr := ⟨_, rfl⟩
      subst hwl
      obtain ⟨ln, hln⟩ : ∃ ln, ln = i := ⟨_, rfl⟩
      subst hln
      obtain ⟨a1, ha1⟩ : ∃ a1, a1 = 1 + ln := ⟨_, rfl⟩
      have HA1 := Lib.hid ha1
      clear ha1
      go_loopg [16, 17, 18, 19] N (fun gk s16 s17 s18 s19 wr => ∃ (i : Nat) (A2 A3 : Option Addr) (c2 c3 : Nat), i ≤ N ∧ N - i ≤ gk ∧ s19 = .int .i64 i ∧ s16 = .slice A2 i c2 ∧ s17 = .slice A3 i c3 ∧ s18 = .string (mkB (placesL pl ++ flatL (readL ⟨bs, cs, l, false⟩ a1 i))) ∧
        Hid (wr.ownsRow wl.heap.size 3 1 (.slice A2 i c2) i (encN (pl.take i)) ∧ wr.ownsRow wl.heap.size 9 1 (.slice A3 i c3) i (encS (readL ⟨bs, cs, l, false⟩ a1 i)) ∧ Below wl.heap.size wl wr ∧ ∀ k, k < i → pl.getD k 0 < h))
      case atStart => exact ⟨0, none, none, 0, 0, Nat.zero_le _, by omega, rfl, rfl, rfl, by rw [HPP.out.1]; simp [readL, flatL], Lib.hid ⟨own_nil, own_nil, Below.refl _ _, fun k hk => absurd hk (Nat.not_lt_zero _)⟩⟩
      case round =>
        obtain ⟨i, A2, A3, c2, c3, hi, hgk, rfl, rfl, rfl, rfl, J⟩ := hrel
        by_cases hlt : i < N
        · have hil : (i : Int) < (N : Int) := by omega
          have RR := Lib.hid (R.out.step J.out.2.2.1)
          obtain ⟨x0, x1, x2, x3, xf⟩ := RR.out.b0.cells
          dsimp only at x2 x3
          have HS : Hid (readL ⟨bs, cs, l, false⟩ a1 (i + 1) = readL ⟨bs, cs, l, false⟩ a1 i ++ [(readD ⟨bs, cs, l, false⟩ ((a1 + i : Nat) : Int)).1]) := Lib.hid (readL_succ _ _ _)
          have hal : a1 + i < bs.length := by have := HL.out; have := HA1.out; omega
          have hsz := HR1.out (a1 + i) hal
          have cq := cr ((a1 + i : Nat) : Int)
          generalize (readD ⟨bs, cs, l, false⟩ ((a1 + i : Nat) : Int)).1 = s at HS cq hsz
          generalize (readD ⟨bs, cs, l, false⟩ ((a1 + i : Nat) : Int)).2 = rx at cq
          obtain ⟨q, hq⟩ : ∃ q, q = a1 + i := ⟨_, rfl⟩
          rw [← hq] at cq
          have ha9 : a1 ≤ 9 := by have := HL.out; have := HA1.out; omega
          have hq9 : q ≤ 1024 := by omega
          have s3 : (1 : Int) + (ln : Int) = (a1 : Int) := by have := HA1.out; omega
          have s4 : (a1 : Int) + (i : Int) = (q : Int) := by omega
          have v1 : IntKind.i64.wrap (a1 : Int) = (a1 : Int) := IntWalk.i64_in _ (by omega)
          have v2 : IntKind.i64.wrap (q : Int) = (q : Int) := IntWalk.i64_in _ (by omega)
          have clB : ∀ W : World, Calls Try.prog 55 #[.int .i64 h] W fun e w' => e = .returned (.int .i64 (ln : Nat)) ∧ Below W.heap.size W w' := fun W => (cl W).mono fun e w' hh => ⟨hh.1, hh.2 ▸ Below.refl _ _⟩
          clear hq hal
          go_wp2_with fail
          go_region_held3 (fun w' => w'.cell? ⟨w.heap.size, 0, none⟩ = some (.slice A n c) ∧ w'.cell? ⟨w.heap.size, 1, none⟩ = some (.slice A' m c') ∧ w'.cell? ⟨w.heap.size, 2, none⟩ = some (.int .i64 l) ∧ w'.cell? ⟨w.heap.size, 3, none⟩ = some (.bool false) ∧ Below wr.heap.size wr w')
            (first | exact keepRB RR.out (Below.refl _ _) | exact keepRB RR.out ((Below.refl _ _).drew) | exact keepRB RR.out (bstep (lastRB (by assumption)) hbx))
            (first
              | (go_at_call 55; refine (clB _).mono ?_; rintro e w8 ⟨rfl, hbx⟩)
              | (go_at_call 54; refine (cq _ (RR.out.dv.step (lastRB (by assumption)))).mono ?_; rintro e w8 ⟨rfl, hbx⟩))
          have HB := Lib.hid (lastRB (show _ ∧ _ ∧ _ ∧ _ ∧ Below wr.heap.size wr w8 by assumption))
          have J8 := Lib.hid (And.intro (own_below J.out.1 HB.out) (And.intro (own_below J.out.2.1 HB.out) (bstep J.out.2.2.1 HB.out)))
          have HMEM : Hid (pl.getD i 0 ∈ pl) := Lib.hid (by
            have h1 : i < pl.length := by rw [HPL.out.1]; exact hlt
            rw [List.getD_eq_getElem?_getD, List.getElem?_eq_getElem h1]
            exact List.getElem_mem h1)
          have HVL : Hid (pl.getD i 0 < 65536) := Lib.hid (by rw [HPN.out i hlt]; exact num2_lt _ _)
          have HN2i := HN2.out i hlt
          have HTK : Hid (pl.take (i + 1) = pl.take i ++ [pl.getD i 0]) := Lib.hid (by
            have h1 : i < pl.length := by rw [HPL.out.1]; exact hlt
            rw [List.take_add_one, List.getD_eq_getElem?_getD, List.getElem?_eq_getElem h1]
            rfl)
          obtain ⟨j2, hj2⟩ : ∃ j2, j2 = 2 * i := ⟨_, rfl⟩
          rw [← hj2] at HN2i
          have s5 : (2 : Int) * (i : Int) = (j2 : Int) := by omega
          obtain ⟨j3, hj3⟩ : ∃ j3, j3 = j2 + 2 := ⟨_, rfl⟩
          rw [← hj3] at HN2i
          have s6 : (j2 : Int) + 2 = (j3 : Int) := by omega
          have hj3P : j3 ≤ P.size := by omega
          have hj23 : j2 ≤ j3 := by omega
          have hP1 : P.size ≤ 1024 := by omega
          have hj31 : j3 ≤ 1024 := by omega
          have hj21 : j2 ≤ 1024 := by omega
          have cnn := fun W => refNe_any (P.extract j2 j3) W (by rw [ByteArray.size_extract]; omega)
          rw [HN2i] at cnn
          have HJV : Hid (pl.getD i 0 < h → ∀ k, k < i + 1 → pl.getD k 0 < h) := Lib.hid (fun hv k hk => by
            by_cases e : k = i
            · rw [e]; exact hv
            · exact J.out.2.2.2 k (by omega))
          generalize pl.getD i 0 = v at cnn HTK HVL HMEM HJV
          have hv65 := HVL.out
          have hv18 : (v : Int) ≤ 18446744073709551615 := by omega
          have v3 : IntKind.i64.wrap (v : Int) = (v : Int) := IntWalk.i64_in _ (by omega)
          clear hj2 hj3 HN2i
          go_wp2_with fail
          refine (cnn _).mono ?_
          rintro e w9 ⟨rfl, rfl⟩
          have hsz8 := J8.out.2.2.size
          go_upto_region 27 with (at_builtin; refine wpList_append_reads _ rfl (.tmp 115) (.tmp 125) 41 rfl wl.heap.size 3 i0 _ 1 8 Try.underlying41 hi0 hz0 hz1 hz2 rfl (by omega) (.slice A2 i c2) i (encN (pl.take i)) rfl (own_alloc J8.out.1 _) _ (some ⟨w8.heap.size, 0, none⟩) 1 1 [.int .i64 (v : Int)] rfl (reads_new w8 #[.int .i64 (v : Int)] 3 1 1 rfl) (by simp [Value.oneCell']) (by simp only [maxLen]; omega) (by omega) (by simp; omega) ?_; intro A6 c6 w6 ho6 hg6 _)
          have J6 : Hid (w6.ownsRow wl.heap.size 3 1 (.slice A6 (i + 1) c6) (i + 1) (encN (pl.take (i + 1))) ∧ w6.ownsRow wl.heap.size 9 1 (.slice A3 i c3) i (encS (readL ⟨bs, cs, l, false⟩ a1 i)) ∧ Below wl.heap.size wl w6) :=
            Lib.hid ⟨own_eq_vals ho6 (by rw [HTK.out, encN_app]; rfl), own_grown (own_alloc J8.out.2.1 _) hg6 (fun g h1 h2 => own_apart J8.out.2.1 J8.out.1 (by decide) g h1 h2), (J8.out.2.2.alloc hsz8 _).grown hg6 (by simp; omega) (fun q hq => own_row_ge J8.out.1 _ hq)⟩
          clear ho6 hg6 J8 J
          have hsz6 := J6.out.2.2.size
          go_upto_region 28 with (at_builtin; refine wpList_append_reads _ rfl (.tmp 127) (.tmp 129) 22 rfl wl.heap.size 9 s0 _ 1 16 Try.underlying22 hs0 hy0 hy1 hy2 rfl (by omega) (.slice A3 i c3) i (encS (readL ⟨bs, cs, l, false⟩ a1 i)) rfl (own_alloc J6.out.2.1 _) _ (some ⟨w6.heap.size, 0, none⟩) 1 1 [.string s] rfl (reads_new w6 #[.string s] 9 1 1 rfl) (by simp [Value.oneCell']) (by simp only [maxLen]; omega) (by omega) (by simp; omega) ?_; intro A7 c7 w7b ho7 hg7 _)
          have J7 : Hid (w7b.ownsRow wl.heap.size 3 1 (.slice A6 (i + 1) c6) (i + 1) (encN (pl.take (i + 1))) ∧ w7b.ownsRow wl.heap.size 9 1 (.slice A7 (i + 1) c7) (i + 1) (encS (readL ⟨bs, cs, l, false⟩ a1 (i + 1))) ∧ Below wl.heap.size wl w7b) :=
            Lib.hid ⟨own_grown (own_alloc J6.out.1 _) hg7 (fun g h1 h2 => own_apart J6.out.1 J6.out.2.1 (by decide) g h1 h2), own_eq_vals ho7 (by rw [HS.out]; simp [encS]), (J6.out.2.2.alloc hsz6 _).grown hg7 (by simp; omega) (fun q hq => own_row_ge J6.out.2.1 _ hq)⟩
          clear ho7 hg7 J6
          have HALL : Hid (mkB (placesL pl ++ flatL (readL ⟨bs, cs, l, false⟩ a1 (i + 1))) = mkB (placesL pl ++ flatL (readL ⟨bs, cs, l, false⟩ a1 i)) ++ s) := Lib.hid (by rw [HS.out, ← mkB_app, flatL_snoc, ← mkB_app, ByteArray.append_assoc])
          have hszA : (mkB (placesL pl ++ flatL (readL ⟨bs, cs, l, false⟩ a1 i))).size = 2 * N + 128 * i := by
            rw [mkB_size, List.length_append, placesL_length, HPL.out.1, flatL_length _ (HRS.out a1 i (by have := HL.out; have := HA1.out; omega)), readL_length]
          have hno : ¬ 9223372036854775807 < (mkB (placesL pl ++ flatL (readL ⟨bs, cs, l, false⟩ a1 i))).size + s.size := by omega
          generalize mkB (placesL pl ++ flatL (readL ⟨bs, cs, l, false⟩ a1 i)) = S3 at HALL hno
          clear hszA
          obtain ⟨ga, rfl, _, _, _, hga⟩ := own_cells J7.out.1 (by omega)
          have hgi := hga i (.int .i64 (v : Int)) (by rw [HTK.out, encN_app]; rw [List.getElem?_append_right (by rw [encN_length, List.length_take, HPL.out.1]; omega), encN_length, List.length_take, HPL.out.1, show i - min i N = 0 by omega]; rfl)
          clear hga
          by_cases hvh : h ≤ v
          · have d1 : decide ((h : Int) ≤ (v : Int)) = true := decide_eq_true (by omega)
            have R8 := Lib.hid (R.out.step J7.out.2.2)
            clear x0 x1 x2 x3 xf
            obtain ⟨x0, x1, x2, x3, xf⟩ := R8.out.b0.cells
            dsimp only at x2 x3
            go_wp2_with fail
            refine (refCopy_any A A' n c m c' ⟨bs, cs, l, false⟩ l false _ R8.out.dv).mono ?_
            rintro e w9 ⟨A9, c9, A9', c9', rfl, ho9, hb9⟩
            have R9 := Lib.hid (R8.out.step hb9)
            have V9 := Lib.hid (Own.dv (d := ⟨bs, cs, l, false⟩) ho9 R8.out.dv.hn R8.out.dv.hm)
            clear x0 x1 x2 x3 xf R8 ho9 hb9
            obtain ⟨z0, z1, z2, z3, zf⟩ := R9.out.b1.cells
            have hz := R9.out.lt
            go_wp2
            refine bodyPost_ret (v := .tuple #[.agg #[.slice A9 n c9, .slice A9' m c9', .int .i64 l, .bool false], .int .i64 10]) (by simp [results, Try.results26, go_sem, z0, z1, z2, z3]) rfl ?_
            rw [HU.out, if_pos ⟨v, HMEM.out, hvh⟩]
            exact R9.out.told V9.out 10
          · have d1 : decide ((h : Int) ≤ (v : Int)) = false := decide_eq_false (by omega)
            have JN := Lib.hid (And.intro J7.out.1 (And.intro J7.out.2.1 (And.intro J7.out.2.2 (HJV.out (by omega)))))
            clear J7
            go_wp2
            go_roundg (N - (i + 1))
            case measure => omega
            case rel => exact ⟨i + 1, _, _, c6, c7, by omega, by omega, by go_num, rfl, rfl, by rw [HALL.out], JN⟩
        · have : i = N := by omega
          subst this
          have RR := Lib.hid (R.out.step J.out.2.2.1)
          obtain ⟨x0, x1, x2, x3, xf⟩ := RR.out.b0.cells
          dsimp only at x2 x3
          have HBL : Hid (readL ⟨bs, cs, l, false⟩ a1 i = bl) := Lib.hid (by rw [HPL.out.2.2, HA1.out])
          have HTA : Hid (pl.take i = pl) := Lib.hid (List.take_of_length_le (by rw [HPL.out.1]; exact Nat.le_refl _))
          have HNX : Hid (¬ ∃ x ∈ pl, h ≤ x) := Lib.hid (by
            rintro ⟨x, hx, hhx⟩
            obtain ⟨k, hk, rfl⟩ := List.mem_iff_getElem.1 hx
            have h1 := J.out.2.2.2 k (by rw [← HPL.out.1]; exact hk)
            rw [List.getD_eq_getElem?_getD, List.getElem?_eq_getElem hk] at h1
            exact absurd h1 (by simpa using hhx))
          rw [HBL.out]
          have cc := fun W => refCrc_any (mkB (placesL pl ++ flatL bl)) W (by
            have hszA : (mkB (placesL pl ++ flatL (readL ⟨bs, cs, l, false⟩ a1 i))).size = 2 * i + 128 * i := by
              rw [mkB_size, List.length_append, placesL_length, HPL.out.1, flatL_length _ (HRS.out a1 i (by have := HL.out; have := HA1.out; omega)), readL_length]
            rw [HBL.out] at hszA
            unfold maxLen
            omega)
          rw [mkB_list] at cc
          have HC32 : Hid (crc (placesL pl ++ flatL bl) < 4294967296) := Lib.hid (by unfold crc; omega)
          have cm := fun W => refNe_any (hb.extract 14 18) W (by rw [ByteArray.size_extract]; omega)
          have HM : Hid (neL (hb.extract 14 18).data.toList < 18446744073709551616) := Lib.hid (Nat.lt_of_lt_of_le (neL_take_lt hb 14 18 (by decide) 4 (by decide) (by decide)) (by decide))
          generalize crc (placesL pl ++ flatL bl) = X at cc HC32 HU
          generalize neL (hb.extract 14 18).data.toList = Y at cm HM HU
          generalize mkB (placesL pl ++ flatL bl) = S3 at cc
          have HX18 := Lib.hid (show (X : Int) ≤ 18446744073709551615 by have := HC32.out; omega)
          have hwx : IntKind.u64.wrap (X : Int) = (X : Int) := IntWalk.u64_in _ (by have := HC32.out; omega)
          have hx32 : X < 4294967296 := HC32.out
          have hYs : hb.size = 128 := hs
          go_wp2_with fail
          have hbl : Below wr.heap.size wr wr := Below.refl _ _
          refine region_belowR (w0 := wr) hbl hmx (by kernel_rfl) ?_
          repeat (first
            | go_big_quiet_skip
            | (go_big_quiet_want; go_big_quiet_op; first
                | go_big_quiet_on
                | (refine ⟨_, fun _ _ => rfl, ?_⟩; go_big_quiet_on)
                | (apply Exists.intro
                   refine ⟨fun w5 hw5 => ?_, ?_⟩
                   · first
                     | (refine (cc _).mono ?_; rintro e w6 ⟨rfl, rfl⟩; exact ⟨rfl, hw5⟩)
                     | (refine (cm _).mono ?_; rintro e w6 ⟨rfl, rfl⟩; exact ⟨rfl, hw5⟩)
                   go_big_quiet_on)))
          refine wpQuiet_nil ?_
          intro w10 hw10
          have R10 := Lib.hid (RR.out.step hw10)
          have J10 : Hid (w10.ownsRow wl.heap.size 3 1 (.slice A2 i c2) i (encN pl) ∧ w10.ownsRow wl.heap.size 9 1 (.slice A3 i c3) i (encS bl) ∧ Below wl.heap.size wl w10) := Lib.hid ⟨own_eq_vals (own_below J.out.1 hw10) (by rw [HTA.out]), own_eq_vals (own_below J.out.2.1 hw10) (by rw [HBL.out]), bstep J.out.2.2.1 hw10⟩
          have JLT := Lib.hid J.out.2.2.2
          clear x0 x1 x2 x3 xf RR J hw10 hbl
          obtain ⟨x0, x1, x2, x3, xf⟩ := R10.out.b0.cells
          dsimp only at x2 x3
          by_cases hXY : X = Y
          · subst hXY
            have tb : ((X : Int) != (X : Int)) = false := by simp
            have hd := R10.out.dv
            have HW0 : Hid (Rw (w10.alloc (.cells #[.slice A n c, .slice A' m c', .int .i64 l, .bool false, .int .i64 0] 97)) w10.heap.size ⟨A, n, c, A', m, c'⟩ (⟨bs, cs, l, false⟩, 0)) := Lib.hid ⟨heap_alloc_new w10 _, R10.out.dv.alloc _⟩
            have HN1 : 1 ≤ i := by omega
            obtain ⟨ga, rfl, hga0, hga1, _, hgac⟩ := own_cells J10.out.1 (by omega)
            obtain ⟨gb, rfl, hgb0, hgb1, _, hgbc⟩ := own_cells J10.out.2.1 (by omega)
            have JW : Hid ((w10.alloc (.cells #[.slice A n c, .slice A' m c', .int .i64 l, .bool false, .int .i64 0] 97)).ownsRow wl.heap.size 3 1 (.slice (some ⟨ga, 0, none⟩) i c2) i (encN pl) ∧ (w10.alloc (.cells #[.slice A n c, .slice A' m c', .int .i64 l, .bool false, .int .i64 0] 97)).ownsRow wl.heap.size 9 1 (.slice (some ⟨gb, 0, none⟩) i c3) i (encS bl) ∧ Below w10.heap.size w10 (w10.alloc (.cells #[.slice A n c, .slice A' m c', .int .i64 l, .bool false, .int .i64 0] 97))) := Lib.hid ⟨own_alloc J10.out.1 _, own_alloc J10.out.2.1 _, alloc_below0 _ _⟩
            obtain ⟨gw, hgw⟩ : ∃ gw, gw = w10.heap.size := ⟨_, rfl⟩
            rw [← hgw] at HW0
            have HGW := Lib.hid hgw
            obtain ⟨N, hNN⟩ : ∃ N, N = i := ⟨_, rfl⟩
            subst hNN
            obtain ⟨a, haa⟩ : ∃ a, a = a1 + g := ⟨_, rfl⟩
            have HAA := Lib.hid haa
            have HLT := Lib.hid JLT.out
            have HGA : Hid (ga < gw ∧ gb < gw ∧ w.heap.size + 1 < gw) := Lib.hid ⟨by omega, by omega, by rw [hgw]; exact R10.out.lt⟩
            have HL0 : Hid (Lp w (w10.alloc (.cells #[.slice A n c, .slice A' m c', .int .i64 l, .bool false, .int .i64 0] 97)) wl.heap.size gw ga gb N c2 c3 pl bl (runD (⟨bs, cs, l, false⟩, 0) (stepsL (fun t => ((a + pl.getD t 0 : Nat) : Int)) (blk bl) 0)) ⟨A, n, c, A', m, c'⟩) := Lib.hid ⟨JW.out.1, JW.out.2.1, HW0.out, R10.out.b1.alloc _, R10.out.below.alloc R10.out.below.size _⟩
            have HLB : Hid (pl.length = N ∧ bl.length = N) := Lib.hid ⟨HPL.out.1, by rw [HPL.out.2.2, readL_length]⟩
            have HA16 : Hid (a1 ≤ 9 ∧ a ≤ 265 ∧ (1 : Int) + (ln : Int) = (a1 : Int) ∧ (a1 : Int) + (g : Int) = (a : Int)) := Lib.hid ⟨by have := HL.out; have := HA1.out; omega, by have := HL.out; have := HA1.out; omega, by have := HA1.out; omega, by omega⟩
            clear haa hgac hgbc hd hgw JW HW0
            go_upto_region 35 with fail
            rw [← HGW.out, tb]
            generalize w10.alloc (.cells #[.slice A n c, .slice A' m c', .int .i64 l, .bool false, .int .i64 0] 97) = W0 at HL0 ⊢
            clear x0 x1 x2 x3 xf
            go_loopg [23] N (fun gk s23 wr => ∃ j : Nat, j ≤ N ∧ N - j ≤ gk ∧ s23 = .int .i64 j ∧ Hid (∃ vv, Lp w wr wl.heap.size gw ga gb N c2 c3 pl bl (runD (⟨bs, cs, l, false⟩, 0) (stepsL (fun t => ((a + pl.getD t 0 : Nat) : Int)) (blk bl) j)) vv))
            case atStart => exact ⟨0, Nat.zero_le _, by omega, rfl, Lib.hid ⟨_, HL0.out⟩⟩
            case round =>
              obtain ⟨j, hj, hgk, rfl, J⟩ := hrel
              obtain ⟨vv, J⟩ := J.out
              by_cases hlt : j < N
              · have hjl : (j : Int) < (N : Int) := by omega
                have HJ := Lib.hid J
                have k1 := J.own1.cellAt j (by omega)
                have k2 := J.own2.cellAt j (by omega)
                rw [encN_get (by rw [HLB.out.1]; exact hlt)] at k1
                rw [encS_get (by rw [HLB.out.2]; exact hlt)] at k2
                have hvh := HLT.out j hlt
                have HST : Hid (runD (⟨bs, cs, l, false⟩, 0) (stepsL (fun t => ((a + pl.getD t 0 : Nat) : Int)) (blk bl) (j + 1)) = stepD (runD (⟨bs, cs, l, false⟩, 0) (stepsL (fun t => ((a + pl.getD t 0 : Nat) : Int)) (blk bl) j)) (.put ((a + pl.getD j 0 : Nat) : Int) (blk bl j))) := Lib.hid (stepsL_succ _ _ _ _)
                generalize pl.getD j 0 = v at k1 hvh HST
                generalize blk bl j = s at k2 HST
                obtain ⟨q, hq⟩ : ∃ q, q = a + v := ⟨_, rfl⟩
                rw [← hq] at HST
                obtain ⟨u1, u2, u3, u4⟩ := HA16.out
                have hq9 : q ≤ 1024 := by omega
                have u5 : (a : Int) + (v : Int) = (q : Int) := by omega
                have w1 : IntKind.i64.wrap (a1 : Int) = (a1 : Int) := IntWalk.i64_in _ (by omega)
                have w2 : IntKind.i64.wrap (a : Int) = (a : Int) := IntWalk.i64_in _ (by omega)
                have w3 : IntKind.i64.wrap (q : Int) = (q : Int) := IntWalk.i64_in _ (by omega)
                have HRW := Lib.hid J.rw.drewR
                clear hq J
                go_wp2_with fail
                refine wp_region_till (fun w' => w'.cell? ⟨ga, j, none⟩ = some (.int .i64 (v : Int)) ∧ w'.cell? ⟨gb, j, none⟩ = some (.string s)) 15 16 hmx (by kernel_rfl) ?_
                have HS : wr.drew.cell? ⟨ga, j, none⟩ = some (.int .i64 (v : Int)) ∧ wr.drew.cell? ⟨gb, j, none⟩ = some (.string s) := ⟨k1, k2⟩
                clear k1 k2
                refine till_take (i := 0) _ (.pointer (some ⟨gw, 0, none⟩)) [0] rfl (by kernel_rfl) (by kernel_rfl) (by kernel_rfl) (by kernel_rfl) (fun _ _ _ h => h) (.inl ⟨by rfl, fun w' hS => ?_⟩) HS ?_
                · obtain ⟨k1, k2⟩ := hS; go_simp
                try simp only [Act.put, List.setIfInBounds_toArray]
                refine till_take (i := 1) _ (.int .i64 (h : Int)) [2, 1] rfl (by kernel_rfl) (by kernel_rfl) (by kernel_rfl) (by kernel_rfl) (fun _ _ _ h => h) (.inl ⟨by rfl, fun w' hS => ?_⟩) HS ?_
                · obtain ⟨k1, k2⟩ := hS; go_simp
                try simp only [Act.put]
                refine till_take (i := 4) _ (.int .i64 (g : Int)) [10, 5, 4] rfl (by kernel_rfl) (by kernel_rfl) (by kernel_rfl) (by kernel_rfl) (fun _ _ _ h => h) (.inl ⟨by rfl, fun w' hS => ?_⟩) HS ?_
                · obtain ⟨k1, k2⟩ := hS; go_simp
                try simp only [Act.put]
                refine till_take (i := 6) _ (.slice (some ⟨ga, 0, none⟩) N c2) [10, 9, 8, 6] rfl (by kernel_rfl) (by kernel_rfl) (by kernel_rfl) (by kernel_rfl) (fun _ _ _ h => h) (.inl ⟨by rfl, fun w' hS => ?_⟩) HS ?_
                · obtain ⟨k1, k2⟩ := hS; go_simp
                try simp only [Act.put]
                refine till_take (i := 7) _ (.int .i64 (j : Int)) [10, 9, 8, 7] rfl (by kernel_rfl) (by kernel_rfl) (by kernel_rfl) (by kernel_rfl) (fun _ _ _ h => h) (.inl ⟨by rfl, fun w' hS => ?_⟩) HS ?_
                · obtain ⟨k1, k2⟩ := hS; go_simp
                try simp only [Act.put]
                refine till_take (i := 8) _ (.pointer (some ⟨ga, j, none⟩)) [10, 9, 8] rfl (by kernel_rfl) (by kernel_rfl) (by kernel_rfl) (by kernel_rfl) (fun _ _ _ h => h) (.inl ⟨by rfl, fun w' hS => ?_⟩) HS ?_
                · obtain ⟨k1, k2⟩ := hS; go_simp
                try simp only [Act.put]
                refine till_take (i := 9) _ (.int .i64 (v : Int)) [10, 9] rfl (by kernel_rfl) (by kernel_rfl) (by kernel_rfl) (by kernel_rfl) (fun _ _ _ h => h) (.inl ⟨by rfl, fun w' hS => ?_⟩) HS ?_
                · obtain ⟨k1, k2⟩ := hS; go_simp
                try simp only [Act.put]
                refine till_take (i := 11) _ (.slice (some ⟨gb, 0, none⟩) N c3) [14, 13, 11] rfl (by kernel_rfl) (by kernel_rfl) (by kernel_rfl) (by kernel_rfl) (fun _ _ _ h => h) (.inl ⟨by rfl, fun w' hS => ?_⟩) HS ?_
                · obtain ⟨k1, k2⟩ := hS; go_simp
                try simp only [Act.put]
                refine till_take (i := 12) _ (.int .i64 (j : Int)) [14, 13, 12] rfl (by kernel_rfl) (by kernel_rfl) (by kernel_rfl) (by kernel_rfl) (fun _ _ _ h => h) (.inl ⟨by rfl, fun w' hS => ?_⟩) HS ?_
                · obtain ⟨k1, k2⟩ := hS; go_simp
                try simp only [Act.put]
                refine till_take (i := 13) _ (.pointer (some ⟨gb, j, none⟩)) [14, 13] rfl (by kernel_rfl) (by kernel_rfl) (by kernel_rfl) (by kernel_rfl) (fun _ _ _ h => h) (.inl ⟨by rfl, fun w' hS => ?_⟩) HS ?_
                · obtain ⟨k1, k2⟩ := hS; go_simp
                try simp only [Act.put]
                refine till_take (i := 14) _ (.string s) [14] rfl (by kernel_rfl) (by kernel_rfl) (by kernel_rfl) (by kernel_rfl) (fun _ _ _ h => h) (.inl ⟨by rfl, fun w' hS => ?_⟩) HS ?_
                · obtain ⟨k1, k2⟩ := hS; go_simp
                try simp only [Act.put]
                refine till_one (i := 2) _ (by kernel_rfl) rfl rfl (fun K hK => ?_)
                go_simp
                go_at_call 55
                refine (cl _).mono ?_
                rintro e w11 ⟨rfl, rfl⟩
                refine hK.out _ _ (fun _ _ => HS) ?_
                try simp only [Act.put, List.setIfInBounds_toArray, List.set_cons_zero, List.set_cons_succ]
                clear hK K
                refine till_take (i := 3) _ (.int .i64 (a1 : Int)) [10, 5, 3] rfl (by kernel_rfl) (by kernel_rfl) (by kernel_rfl) (by kernel_rfl) (fun _ _ _ h => h) (.inl ⟨by rfl, fun w' hS => ?_⟩) HS ?_
                · obtain ⟨k1, k2⟩ := hS; go_simp
                try simp only [Act.put, List.setIfInBounds_toArray]
                refine till_take (i := 5) _ (.int .i64 (a : Int)) [10, 5] rfl (by kernel_rfl) (by kernel_rfl) (by kernel_rfl) (by kernel_rfl) (fun _ _ _ h => h) (.inl ⟨by rfl, fun w' hS => ?_⟩) HS ?_
                · obtain ⟨k1, k2⟩ := hS; go_simp
                try simp only [Act.put]
                refine till_take (i := 10) _ (.int .i64 (q : Int)) [10] rfl (by kernel_rfl) (by kernel_rfl) (by kernel_rfl) (by kernel_rfl) (fun _ _ _ h => h) (.inl ⟨by rfl, fun w' hS => ?_⟩) HS ?_
                · obtain ⟨k1, k2⟩ := hS; go_simp
                try simp only [Act.put]
                refine till_one (i := 15) _ (by kernel_rfl) rfl rfl (fun K hK => ?_)
                go_simp
                go_at_call 72
                refine (refPut_wk wr.drew gw vv _ (q : Int) s HRW.out (left_run _ HFL.out.2)).mono ?_
                rintro e w12 ⟨rfl, v2, hw2, hg2⟩
                refine hK.out _ _ (fun h => absurd rfl h) ?_
                try simp only [Act.put, List.setIfInBounds_toArray, List.set_cons_zero, List.set_cons_succ]
                clear hK K
                refine till_done (by kernel_rfl) ?_
                have JN := Lib.hid (HJ.out.grown hw2 (grownBy_drew hg2) (by have := HGA.out; omega) (by have := HGA.out; omega) HGA.out.2.2)
                clear hw2 hg2 HRW HJ HS
                rw [← HST.out] at JN
                go_wp2
                go_roundg (N - (j + 1))
                case measure => omega
                case rel => exact ⟨j + 1, by omega, by omega, by go_num, Lib.hid ⟨v2, JN.out⟩⟩
              · have : j = N := by omega
                subst this
                have HEND : Hid (stepD (stepD (stepD (runD (⟨bs, cs, l, false⟩, 0) (stepsL (fun t => ((a + pl.getD t 0 : Nat) : Int)) (blk bl) j)) .flush) (.put 0 zeroB)) .flush = u) := Lib.hid (by
                  have e1 : stepsL (fun t => ((a + pl.getD t 0 : Nat) : Int)) (blk bl) j = homeSteps a pl bl := by unfold homeSteps; rw [HLB.out.1]
                  rw [HU.out, if_neg HNX.out, if_neg (fun h => h rfl), e1, ← show a = 1 + ln + g by rw [HAA.out, HA1.out]]
                  unfold endSteps
                  rw [runD_app, runD_app, runD_app]
                  rfl)
                have HL3 : Hid ((runD (⟨bs, cs, l, false⟩, 0) (stepsL (fun t => ((a + pl.getD t 0 : Nat) : Int)) (blk bl) j)).1.left ≤ 9223372036854775807 ∧ FitP (runD (⟨bs, cs, l, false⟩, 0) (stepsL (fun t => ((a + pl.getD t 0 : Nat) : Int)) (blk bl) j)).1) := Lib.hid ⟨left_run _ HFL.out.2, fit_run _ HFL.out.1⟩
                generalize runD (⟨bs, cs, l, false⟩, 0) (stepsL (fun t => ((a + pl.getD t 0 : Nat) : Int)) (blk bl) j) = x1 at J HEND HL3
                have HJ := Lib.hid J
                clear J
                go_wp2_with fail
                refine (refFlush_wk _ gw _ x1 HJ.out.rw HL3.out.1 (in_of_fit HL3.out.2)).mono ?_
                rintro e w13 ⟨rfl, v3, hw3, hg3⟩
                have J3 := Lib.hid (HJ.out.grown hw3 hg3 (by have := HGA.out; omega) (by have := HGA.out; omega) HGA.out.2.2)
                have HL4 : Hid ((stepD x1 .flush).1.left ≤ 9223372036854775807 ∧ FitP (stepD x1 .flush).1) := Lib.hid ⟨left_step HL3.out.1 _, fit_step HL3.out.2 _⟩
                clear hw3 hg3 HJ
                generalize stepD x1 .flush = x2 at J3 HEND HL4
                go_wp2_with fail
                refine (zeros_any _).mono ?_
                rintro e w14 ⟨rfl, hb14⟩
                have J4 := Lib.hid (J3.out.step hb14)
                clear J3 hb14
                go_wp2_with fail
                refine (refPut_wk _ gw _ x2 0 zeroB J4.out.rw HL4.out.1).mono ?_
                rintro e w15 ⟨rfl, v5, hw5, hg5⟩
                have J5 := Lib.hid (J4.out.grown hw5 hg5 (by have := HGA.out; omega) (by have := HGA.out; omega) HGA.out.2.2)
                have HL5 : Hid ((stepD x2 (.put 0 zeroB)).1.left ≤ 9223372036854775807 ∧ FitP (stepD x2 (.put 0 zeroB)).1) := Lib.hid ⟨left_step HL4.out.1 _, fit_step HL4.out.2 _⟩
                clear hw5 hg5 J4
                generalize stepD x2 (.put 0 zeroB) = x3 at J5 HEND HL5
                go_wp2_with fail
                refine (refFlush_wk _ gw _ x3 J5.out.rw HL5.out.1 (in_of_fit HL5.out.2)).mono ?_
                rintro e w16 ⟨rfl, v6, hw6, hg6⟩
                have J6 := Lib.hid (J5.out.grown hw6 hg6 (by have := HGA.out; omega) (by have := HGA.out; omega) HGA.out.2.2)
                clear hw6 hg6 J5
                generalize stepD x3 .flush = x4 at J6 HEND
                have HRW6 := Lib.hid J6.out.rw.drewR
                have B6 : Hid (B4 w16.drew (w.heap.size + 1) (.slice none 0 0) (.slice none 0 0) (.int .i64 0) (.bool false) ∧ Below w.heap.size w w16.drew) := Lib.hid ⟨J6.out.b1, J6.out.below.drew⟩
                go_wp2_with fail
                have hz : w.heap.size + 1 < w16.heap.size := J6.out.b1.lt
                have hgr : gw ≠ w.heap.size + 1 := by have := HGW.out; have := R10.out.lt; omega
                have HT : Hid (Tells2 w (putD w16.drew (w.heap.size + 1) (.slice v6.A v6.n v6.c) (.slice v6.A' v6.m v6.c') (.int .i64 x4.1.left) (.bool x4.1.dead)) x4.1 x4.2 (.returned (.tuple #[.agg #[.slice v6.A v6.n v6.c, .slice v6.A' v6.m v6.c', .int .i64 x4.1.left, .bool x4.1.dead], .int .i64 x4.2]))) := Lib.hid ⟨v6.A, v6.n, v6.c, v6.A', v6.m, v6.c', rfl, putD_dv B6.out.1 HRW6.out.dv, putD_below B6.out.2 (by omega)⟩
                have HT2 : Hid (Tells2 w (putD w16 (w.heap.size + 1) (.slice v6.A v6.n v6.c) (.slice v6.A' v6.m v6.c') (.int .i64 x4.1.left) (.bool x4.1.dead)) x4.1 x4.2 (.returned (.tuple #[.agg #[.slice v6.A v6.n v6.c, .slice v6.A' v6.m v6.c', .int .i64 x4.1.left, .bool x4.1.dead], .int .i64 x4.2]))) := Lib.hid ⟨v6.A, v6.n, v6.c, v6.A', v6.m, v6.c', rfl, putD_dv J6.out.b1 J6.out.rw.dv, putD_below J6.out.below (by omega)⟩
                obtain ⟨z0, z1, z2, z3, zf⟩ := J6.out.b1.cells
                go_region_held3 (fun w' => w'.cell? ⟨gw, 0, none⟩ = some (.slice v6.A v6.n v6.c) ∧ w'.cell? ⟨gw, 1, none⟩ = some (.slice v6.A' v6.m v6.c') ∧ w'.cell? ⟨gw, 2, none⟩ = some (.int .i64 x4.1.left) ∧ w'.cell? ⟨gw, 3, none⟩ = some (.bool x4.1.dead) ∧ w'.cell? ⟨gw, 4, none⟩ = some (.int .i64 x4.2))
                  (first | exact J6.out.rw.c | exact HRW6.out.c | exact putD_keep J6.out.rw hgr | exact putD_keep HRW6.out hgr)
                  (fail)
                go_wp2
                refine bodyPost_ret (v := .tuple #[.agg #[.slice v6.A v6.n v6.c, .slice v6.A' v6.m v6.c', .int .i64 x4.1.left, .bool x4.1.dead], .int .i64 x4.2]) (by simp [results, Try.results26, go_sem, z0, z1, z2, z3]) rfl ?_
                rw [← HEND.out]
                first | exact HT.out | exact HT2.out
          · have tb : ((X : Int) != (Y : Int)) = true := by simp only [bne_iff_ne, ne_eq]; omega
            go_wp2_with fail
            refine (refCopy_any A A' n c m c' ⟨bs, cs, l, false⟩ l false _ R10.out.dv).mono ?_
            rintro e w9 ⟨A9, c9, A9', c9', rfl, ho9, hb9⟩
            have R9 := Lib.hid (R10.out.step hb9)
            have V9 := Lib.hid (Own.dv (d := ⟨bs, cs, l, false⟩) ho9 R10.out.dv.hn R10.out.dv.hm)
            clear x0 x1 x2 x3 xf R10 ho9 hb9
            obtain ⟨z0, z1, z2, z3, zf⟩ := R9.out.b1.cells
            have hz := R9.out.lt
            go_wp2
            refine bodyPost_ret (v := .tuple #[.agg #[.slice A9 n c9, .slice A9' m c9', .int .i64 l, .bool false], .int .i64 10]) (by simp [results, Try.results26, go_sem, z0, z1, z2, z3]) rfl ?_
            rw [HU.out, if_neg HNX.out, if_pos hXY]
            exact R9.out.told V9.out 10

end Go.Proofs.Ytlmapbipgdhoiaa
