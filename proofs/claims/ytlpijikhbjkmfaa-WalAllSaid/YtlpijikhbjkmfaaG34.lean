/-
  The reference's work in memory: its write and its flush.
-/
import Derived.Test.YtlpijikhbjkmfaaG31
import Derived.Test.YtlpijikhbjkmfaaG26
import Derived.Test.YtlpijikhbjkmfaaG22
namespace Go.Proofs.Ytlpijikhbjkmfaa
open Go.RowKit

structure RV where
  A : Option Addr
  n : Nat
  c : Nat
  A' : Option Addr
  m : Nat
  c' : Nat
def RV.cells (v : RV) (x : D × Int) : Array Value := #[.slice v.A v.n v.c, .slice v.A' v.m v.c', .int .i64 x.1.left, .bool x.1.dead, .int .i64 x.2]
/-- The block g is the reference's work: its device, its error. -/
structure Rw (w : World) (g : Nat) (v : RV) (x : D × Int) : Prop where
  blk : w.heap[g]? = some (.cells (v.cells x) 74 (0, 0))
  dv : Dv w w.heap.size v.A v.n v.A' v.m x.1
def putR (w : World) (g : Nat) (a b l z e : Value) : World := ((((w.setCell ⟨g, 0, none⟩ a).setCell ⟨g, 1, none⟩ b).setCell ⟨g, 2, none⟩ l).setCell ⟨g, 3, none⟩ z).setCell ⟨g, 4, none⟩ e
section
variable {w w' : World} {g : Nat} {v v' : RV} {x y : D × Int}
theorem Rw.lt (h : Rw w g v x) : g < w.heap.size := (Array.getElem?_eq_some_iff.1 h.blk).1
theorem Rw.get (h : Rw w g v x) (o : Nat) : w.cell? ⟨g, o, none⟩ = (v.cells x)[o]? := by
  have h := h.blk
  simp [World.cell?, h]
theorem Rw.c (h : Rw w g v x) : w.cell? ⟨g, 0, none⟩ = some (.slice v.A v.n v.c) ∧ w.cell? ⟨g, 1, none⟩ = some (.slice v.A' v.m v.c') ∧ w.cell? ⟨g, 2, none⟩ = some (.int .i64 x.1.left) ∧ w.cell? ⟨g, 3, none⟩ = some (.bool x.1.dead) ∧ w.cell? ⟨g, 4, none⟩ = some (.int .i64 x.2) := ⟨h.get 0, h.get 1, h.get 2, h.get 3, h.get 4⟩
theorem Rw.f (h : Rw w g v x) (o : Nat) : w.frozen? ⟨g, o, none⟩ = false := by
  have h := h.blk
  simp [World.frozen?, h]
theorem Rw.step (h : Rw w g v x) (hb : Below w.heap.size w w') : Rw w' g v x := ⟨(hb.block g h.lt).trans h.blk, h.dv.step hb⟩
theorem no_stringR (v : RV) (x : D × Int) : ∀ (o : Nat) (s : ByteArray), (v.cells x)[o]? ≠ some (Value.string s) := by
  intro o s h
  have := Array.mem_of_getElem? h
  simp [RV.cells] at this
theorem Rw.farS {B n : Nat} {A : Option Addr} {bs : List ByteArray} (h : Rw w g v x) (hr : Reads w B 1 A n (encS bs)) (hn : 0 < n) : ∀ ad, A = some ad → ad.block ≠ g := by
  intro ad e hg
  obtain ⟨b, o, e2, _, hc⟩ := hr.str hn
  rw [e2] at e
  injection e with e
  subst e
  dsimp only at hg
  subst hg
  rw [h.get] at hc
  exact no_stringR v x _ _ hc
theorem Rw.farW {B n : Nat} {A : Option Addr} {cs : List (Int × ByteArray)} (h : Rw w g v x) (hr : Reads w B 2 A n (encW cs)) (hn : 0 < n) : ∀ ad, A = some ad → ad.block ≠ g := by
  intro ad e hg
  obtain ⟨b, o, e2, _, _, hc⟩ := hr.wr hn
  rw [e2] at e
  injection e with e
  subst e
  dsimp only at hg
  subst hg
  rw [h.get] at hc
  exact no_stringR v x _ _ hc
theorem putR_grown (w : World) (g : Nat) (a b l z e : Value) : w.grownBy (putR w g a b l z e) (some g) :=
  grown_trans (grown_trans (grown_trans (grown_trans (grown_set w g 0 a) (grown_set _ g 1 b)) (grown_set _ g 2 l)) (grown_set _ g 3 z)) (grown_set _ g 4 e)
/-- Another device stored, and another error. -/
theorem Rw.put (h : Rw w g v x) (hd : Dv w w.heap.size v'.A v'.n v'.A' v'.m y.1) : Rw (putR w g (.slice v'.A v'.n v'.c) (.slice v'.A' v'.m v'.c') (.int .i64 y.1.left) (.bool y.1.dead) (.int .i64 y.2)) g v' y := by
  have hg := putR_grown w g (.slice v'.A v'.n v'.c) (.slice v'.A' v'.m v'.c') (.int .i64 y.1.left) (.bool y.1.dead) (.int .i64 y.2)
  refine ⟨?_, hd.bs.grown (_B := 0) (h.farS hd.bs) hg, hd.cs.grown (_B := 0) (h.farW hd.cs) hg, hd.hn, hd.hm⟩
  have hb := h.blk
  unfold RV.cells at hb
  simp [putR, World.setCell, Array.getElem?_modify, hb, RV.cells]
end

set_option maxRecDepth 100000 in
set_option maxHeartbeats 1000000 in
theorem refPut_wk (w : World) (g : Nat) (v : RV) (x : D × Int) (i : Int) (s : ByteArray) (h : Rw w g v x) (hl : x.1.left ≤ 9223372036854775807) :
    Calls Try.prog 40 #[.pointer (some ⟨g, 0, none⟩), .int .i64 i, .string s] w fun e w' => e = .returned (.tuple #[]) ∧ ∃ v', Rw w' g v' (stepD x (.put i s)) ∧ w.grownBy w' (some g) := by
  obtain ⟨d, y⟩ := x
  obtain ⟨x0, x1, x2, x3, x4⟩ := h.c
  have H := Lib.hid h
  by_cases h0 : y = 0
  · have h0' : (y == 0) = true := by simpa using h0
    have cr := refWrite_any v.A v.A' v.n v.c v.m v.c' d i s w h.dv hl
    have HE : Hid (stepD (d, y) (.put i s) = writeD d i s) := Lib.hid (if_pos h0)
    rw [HE.out]
    generalize writeD d i s = r at cr ⊢
    obtain ⟨dn, z⟩ := r
    clear h h0
    go_enter Try.func40, Try.ntmps40
    go_wp2_with fail
    refine cr.mono ?_
    rintro e w1 ⟨A, n, c, A', m, c', rfl, hd1, hb1⟩
    have H1 := Lib.hid (H.out.step hb1)
    obtain ⟨y0, y1, y2, y3, y4⟩ := H1.out.c
    have yf := H1.out.f
    have HD := Lib.hid (And.intro hd1 hb1)
    clear x0 x1 x2 x3 x4 hd1 hb1 cr
    go_wp2
    go_end0
    exact ⟨rfl, ⟨A, n, c, A', m, c'⟩, H1.out.put (v' := ⟨A, n, c, A', m, c'⟩) (y := (dn, z)) HD.out.1, grown_trans (grown_of_below HD.out.2 (some g)) (putR_grown w1 g _ _ _ _ _)⟩
  · have h0' : (y == 0) = false := by simpa using h0
    have HE : Hid (stepD (d, y) (.put i s) = (d, y)) := Lib.hid (if_neg h0)
    rw [HE.out]
    clear h h0
    go_enter Try.func40, Try.ntmps40
    go_wp2
    go_end0
    exact ⟨rfl, ⟨v, H.out⟩, World.grownBy.refl _ _⟩

set_option maxRecDepth 100000 in
set_option maxHeartbeats 1000000 in
theorem refFlush_wk (w : World) (g : Nat) (v : RV) (x : D × Int) (h : Rw w g v x) (hl : x.1.left ≤ 9223372036854775807) (hin : InP x.1) :
    Calls Try.prog 43 #[.pointer (some ⟨g, 0, none⟩)] w fun e w' => e = .returned (.tuple #[]) ∧ ∃ v', Rw w' g v' (stepD x .flush) ∧ w.grownBy w' (some g) := by
  obtain ⟨d, y⟩ := x
  obtain ⟨x0, x1, x2, x3, x4⟩ := h.c
  have H := Lib.hid h
  by_cases h0 : y = 0
  · have h0' : (y == 0) = true := by simpa using h0
    have cr := refFlush_any v.A v.A' v.n v.c v.m v.c' d w h.dv hl hin
    have HE : Hid (stepD (d, y) .flush = flushD d) := Lib.hid (if_pos h0)
    rw [HE.out]
    generalize flushD d = r at cr ⊢
    obtain ⟨dn, z⟩ := r
    clear h h0
    go_enter Try.func43, Try.ntmps43
    go_wp2_with fail
    refine cr.mono ?_
    rintro e w1 ⟨A, n, c, A', m, c', rfl, hd1, hb1⟩
    have H1 := Lib.hid (H.out.step hb1)
    obtain ⟨y0, y1, y2, y3, y4⟩ := H1.out.c
    have yf := H1.out.f
    have HD := Lib.hid (And.intro hd1 hb1)
    clear x0 x1 x2 x3 x4 hd1 hb1 cr
    go_wp2
    go_end0
    exact ⟨rfl, ⟨A, n, c, A', m, c'⟩, H1.out.put (v' := ⟨A, n, c, A', m, c'⟩) (y := (dn, z)) HD.out.1, grown_trans (grown_of_below HD.out.2 (some g)) (putR_grown w1 g _ _ _ _ _)⟩
  · have h0' : (y == 0) = false := by simpa using h0
    have HE : Hid (stepD (d, y) .flush = (d, y)) := Lib.hid (if_neg h0)
    rw [HE.out]
    clear h h0
    go_enter Try.func43, Try.ntmps43
    go_wp2
    go_end0
    exact ⟨rfl, ⟨v, H.out⟩, World.grownBy.refl _ _⟩

end Go.Proofs.Ytlpijikhbjkmfaa

/-
  The commit block: what its bytes say, as plain lists.
-/
namespace Go.Proofs.Ytlpijikhbjkmfaa
open Go.RowKit

theorem beL_snoc (n k : Nat) : beL n (k + 1) = beL (n / 256) k ++ [UInt8.ofNat n] := by
  unfold beL
  rw [List.range_succ, List.map_append]
  congr 1
  · refine List.map_congr_left fun j hj => ?_
    have hj := List.mem_range.1 hj
    rw [Nat.div_div_eq_div_mul, show k + 1 - 1 - j = (k - 1 - j) + 1 by omega, Nat.pow_succ, Nat.mul_comm]
  · simp
theorem beL_neL : ∀ (k : Nat) (l : List UInt8), l.length = k → beL (neL l) k = l
  | 0, l, h => by
    obtain rfl := List.eq_nil_of_length_eq_zero h
    rfl
  | k + 1, l, h => by
    have hne : l ≠ [] := fun e => by rw [e] at h; simp at h
    obtain ⟨r, b, rfl⟩ : ∃ r b, l = r ++ [b] := ⟨l.dropLast, l.getLast hne, (List.dropLast_concat_getLast hne).symm⟩
    have hr : r.length = k := by simpa using h
    have hb := b.toNat_lt
    rw [neL_snoc, beL_snoc, show (neL r * 256 + b.toNat) / 256 = neL r by omega, beL_neL k r hr]
    congr 2
    refine UInt8.toNat_inj.1 ?_
    rw [UInt8.toNat_ofNat']
    omega
theorem neL_beL : ∀ (k n : Nat), n < 256 ^ k → neL (beL n k) = n
  | 0, n, h => by
    have : n = 0 := by simpa using h
    subst this
    rfl
  | k + 1, n, h => by
    rw [beL_snoc, neL_snoc, neL_beL k (n / 256) (by rw [Nat.pow_succ] at h; omega)]
    have : (UInt8.ofNat n).toNat = n % 256 := by simp
    rw [this]
    omega
/-- The list's bytes are its places'. -/
theorem placesL_num2 (S : ByteArray) : ∀ n, 2 * n ≤ S.size → placesL ((List.range n).map (num2 S)) = S.data.toList.take (2 * n)
  | 0, _ => by simp [placesL]
  | n + 1, h => by
    have hl : S.data.toList.length = S.size := Array.length_toList
    have h1 : ((S.data.toList.drop (2 * n)).take 2).length = 2 := by rw [List.length_take, List.length_drop]; omega
    rw [List.range_succ, List.map_append]
    unfold placesL
    rw [List.flatMap_append]
    show placesL _ ++ _ = _
    rw [placesL_num2 S n (by omega)]
    show _ ++ (beL (num2 S n) 2 ++ []) = _
    rw [List.append_nil]
    unfold num2
    rw [beL_neL 2 _ h1, show 2 * (n + 1) = 2 * n + 2 by omega, List.take_add]
/-- A block of 128 bytes by its parts. -/
theorem parts128 (l : List UInt8) (_h : l.length = 128) : l = l.take 4 ++ (l.drop 4).take 8 ++ (l.drop 12).take 2 ++ (l.drop 14).take 4 ++ l.drop 18 := by
  have e1 : ∀ i j, (l.drop i).take j ++ l.drop (i + j) = l.drop i := fun i j => by rw [← List.drop_drop, List.take_append_drop]
  rw [List.append_assoc, List.append_assoc, List.append_assoc, e1 14 4, e1 12 2, e1 4 8, List.take_append_drop]

theorem sub_list (s : ByteArray) (i j : Nat) : (s.extract i j).data.toList = (s.data.toList.drop i).take (j - i) := by
  rw [ByteArray.data_extract, Array.toList_extract, List.extract_eq_take_drop]
/-- When a head is the one that is written of its list and its log. -/
theorem seal_iff (s : ByteArray) (hs : s.size = 128) (pl : List Nat) (bl : List ByteArray) (hn : pl.length = neL (s.extract 12 14).data.toList) :
    s = sealB (neL (s.extract 4 12).data.toList) pl bl ↔ (s.extract 0 4).data.toList = [65, 87, 76, 49] ∧ s.data.toList.drop 18 = List.replicate 110 0 ∧ neL (s.extract 14 18).data.toList = crc (placesL pl ++ flatL bl) := by
  have hl : s.data.toList.length = 128 := by rw [← hs]; exact Array.length_toList
  have hp := parts128 s.data.toList hl
  have l8 : ((s.data.toList.drop 4).take 8).length = 8 := by rw [List.length_take, List.length_drop]; omega
  have l2 : ((s.data.toList.drop 12).take 2).length = 2 := by rw [List.length_take, List.length_drop]; omega
  have l4 : ((s.data.toList.drop 14).take 4).length = 4 := by rw [List.length_take, List.length_drop]; omega
  have la : (s.data.toList.take 4).length = 4 := by rw [List.length_take]; omega
  have hc : crc (placesL pl ++ flatL bl) < 256 ^ 4 := by
    have : crc (placesL pl ++ flatL bl) < 4294967296 := by unfold crc; omega
    exact this
  have hseal : (sealB (neL (s.extract 4 12).data.toList) pl bl).data.toList = [65, 87, 76, 49] ++ (s.data.toList.drop 4).take 8 ++ (s.data.toList.drop 12).take 2 ++ beL (crc (placesL pl ++ flatL bl)) 4 ++ List.replicate 110 0 := by
    unfold sealB padL
    rw [mkB_list, hn, sub_list, sub_list, beL_neL 8 _ l8, beL_neL 2 _ l2]
    congr 2
    simp only [List.length_append, beL_length, l8, l2]
    rfl
  have hsd : s = sealB (neL (s.extract 4 12).data.toList) pl bl ↔ s.data.toList = (sealB (neL (s.extract 4 12).data.toList) pl bl).data.toList := by
    constructor
    · exact fun e => congrArg (fun z : ByteArray => z.data.toList) e
    · intro e
      exact ByteArray.ext (Array.toList_inj.1 e)
  rw [hsd, hseal, sub_list s 0 4, sub_list s 14 18, List.drop_zero]
  show _ ↔ s.data.toList.take 4 = _ ∧ _ ∧ neL ((s.data.toList.drop 14).take 4) = _
  constructor
  · intro e
    have e5 := List.append_inj' (hp.symm.trans e) (by rw [List.length_drop, List.length_replicate, hl])
    have e4 := List.append_inj' e5.1 (by rw [l4, beL_length])
    have e2 := List.append_inj' e4.1 rfl
    have e1 := List.append_inj' e2.1 rfl
    refine ⟨e1.1, e5.2, ?_⟩
    show neL ((s.data.toList.drop 14).take 4) = _
    rw [e4.2, neL_beL 4 _ hc]
  · rintro ⟨h1, h2, h3⟩
    conv => lhs; rw [hp]
    rw [show s.data.toList.take 4 = [65, 87, 76, 49] from h1, h2, ← h3, beL_neL 4 _ l4]

end Go.Proofs.Ytlpijikhbjkmfaa

/-
  What a recovery asks of the log, by the document's own checks.
-/
namespace Go.Proofs.Ytlpijikhbjkmfaa
open Go.RowKit

theorem le_maxes (h : Int) : ∀ (l : List Int) (a : Int), h ≤ l.foldl max a ↔ h ≤ a ∨ ∃ x ∈ l, h ≤ x
  | [], a => by simp
  | x :: l, a => by
    rw [List.foldl_cons, le_maxes h l (max a x)]
    simp only [List.mem_cons, exists_eq_or_imp]
    constructor
    · rintro (h1 | h1)
      · by_cases h2 : h ≤ a
        · exact .inl h2
        · exact .inr (.inl (by omega))
      · exact .inr (.inr h1)
    · rintro (h1 | h1 | h1)
      · exact .inl (by omega)
      · exact .inl (by omega)
      · exact .inr h1
theorem high_iff (pl : List Nat) (hne : pl ≠ []) (h : Nat) : (h : Int) ≤ highI pl ↔ ∃ x ∈ pl, h ≤ x := by
  unfold highI Lib.maxOf
  rw [List.take_of_length_le (by simp), le_maxes]
  constructor
  · rintro (h1 | ⟨x, hx, h1⟩)
    · cases pl with
      | nil => exact absurd rfl hne
      | cons p r =>
        rw [List.map_cons, List.headD_cons] at h1
        exact ⟨p, List.mem_cons_self .., by omega⟩
    · obtain ⟨p, hp, rfl⟩ := List.mem_map.1 hx
      exact ⟨p, hp, by omega⟩
  · rintro ⟨p, hp, h1⟩
    exact .inr ⟨(p : Int), List.mem_map.2 ⟨p, hp, rfl⟩, by omega⟩
/-- The document's checks, in its order. -/
def askE (d : D) (h g : Nat) : Int :=
  if d.dead = true then 17 else if headB d = zeroB then 0
  else if (((headB d).extract 0 4).data.toList ≠ [65, 87, 76, 49] ∨ (headB d).data.toList.drop 18 ≠ List.replicate 110 0) ∨ cntN d < 1 ∨ g < cntN d ∨ h < cntN d then 10
  else if (∃ x ∈ plR d h, h ≤ x) then 10
  else if crc (placesL (plR d h) ++ flatL (blR d h)) ≠ neL ((headB d).extract 14 18).data.toList then 10 else 0
theorem loadE_ask (d : D) (h g : Nat) (hs : d.dead = false → (headB d).size = 128) : loadE d h g = askE d h g := by
  unfold loadE askE
  by_cases hd : d.dead = true
  · rw [if_pos hd, if_pos hd]
  rw [if_neg hd, if_neg hd]
  by_cases hz : headB d = zeroB
  · rw [if_pos hz, if_pos hz]
  rw [if_neg hz, if_neg hz]
  have hsz := hs (by simpa using hd)
  have hpl : (plR d h).length = cntN d := by simp [plR]
  by_cases hc : cntN d < 1 ∨ g < cntN d ∨ h < cntN d
  · rw [if_pos hc, if_pos (.inr hc)]
  rw [if_neg hc]
  have hne : plR d h ≠ [] := fun e => by rw [e] at hpl; exact hc (.inl (by simp at hpl; omega))
  have hsi := seal_iff (headB d) hsz (plR d h) (blR d h) hpl
  have hhi := high_iff (plR d h) hne h
  have hP : ((h : Int) ≤ highI (plR d h) ∨ headB d ≠ sealB (seqN d) (plR d h) (blR d h)) ↔ ((((headB d).extract 0 4).data.toList ≠ [65, 87, 76, 49] ∨ (headB d).data.toList.drop 18 ≠ List.replicate 110 0) ∨ (∃ x ∈ plR d h, h ≤ x) ∨ crc (placesL (plR d h) ++ flatL (blR d h)) ≠ neL ((headB d).extract 14 18).data.toList) := by
    constructor
    · rintro (h1 | h1)
      · exact .inr (.inl (hhi.1 h1))
      · by_cases a1 : ((headB d).extract 0 4).data.toList = [65, 87, 76, 49]
        · by_cases a2 : (headB d).data.toList.drop 18 = List.replicate 110 0
          · by_cases a3 : neL ((headB d).extract 14 18).data.toList = crc (placesL (plR d h) ++ flatL (blR d h))
            · exact absurd (hsi.2 ⟨a1, a2, a3⟩) h1
            · exact .inr (.inr (fun e => a3 e.symm))
          · exact .inl (.inr a2)
        · exact .inl (.inl a1)
    · rintro ((h1 | h1) | h1 | h1)
      · exact .inr fun e => h1 (hsi.1 e).1
      · exact .inr fun e => h1 (hsi.1 e).2.1
      · exact .inl (hhi.2 h1)
      · exact .inr fun e => h1 (hsi.1 e).2.2.symm
  have hL : ∀ (P M X Q C : Prop) [Decidable P] [Decidable M] [Decidable X] [Decidable Q] [Decidable C], (P ↔ M ∨ X ∨ Q) → ¬ C → (if P then (10 : Int) else 0) = if M ∨ C then 10 else if X then 10 else if Q then 10 else 0 := by
    intro P M X Q C _ _ _ _ _ h1 h2
    by_cases hm : M <;> by_cases hx : X <;> by_cases hq : Q <;> simp [h1, h2, hm, hx, hq]
  exact hL _ _ _ _ _ hP hc

end Go.Proofs.Ytlpijikhbjkmfaa
