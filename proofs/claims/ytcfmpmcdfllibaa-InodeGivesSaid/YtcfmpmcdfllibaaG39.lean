/-
  What is written is read, all else as it was, and what the others hold too.
-/
import Derived.Test.YtcfmpmcdfllibaaG38
import Derived.Test.YtcfmpmcdfllibaaG35
namespace Go.Proofs.Ytcfmpmcdfllibaa
open Go.RowKit

theorem Chg.trans {img c d : List ByteArray} {i : Nat} {r s : RecI} (h : Chg img c i r) (k : Chg c d i s) : Chg img d i s := by
  refine ⟨k.sound, k.len.trans h.len, k.rec1, fun j hj hne => ?_⟩
  have h1 := h.oth j hj hne
  have h2 := k.oth j (by rw [h.len]; exact hj) hne
  have hrec : recI c j = recI img j := recI_far h1.1 fun h0 => h1.2 _ (by unfold namedR; rw [if_neg h0]; simp)
  refine ⟨h2.1.trans h1.1, fun b hb => ?_⟩
  rw [h2.2 b (by rw [hrec]; exact hb), h1.2 b hb]
theorem Chg.rec2 {img c : List ByteArray} {i : Nat} {r : RecI} (h : Chg img c i r) {j : Nat} (hj : j < cntA img.length) (hne : j ≠ i) : recI c j = recI img j := recI_far (h.oth j hj hne).1 fun h0 => (h.oth j hj hne).2 _ (by unfold namedR; rw [if_neg h0]; simp)
theorem getI_in {img : List ByteArray} {k : Nat} (hk : k < cntA img.length) : getI img (k : Int) = (recI img k, 0) := by unfold getI; rw [if_neg (by omega), Int.toNat_natCast]
theorem readI_at {img : List ByteArray} {k : Nat} (hk : k < cntA img.length) : readI img (k : Int) = if (recI img k).kind = 0 then (⟨#[]⟩, 20) else (mkB ((flatR img (recI img k)).take (recI img k).size), 0) := by
  unfold readI
  rw [heldI_at (getI_in hk)]
  by_cases h0 : (recI img k).kind = 0
  · rw [if_pos h0, if_pos h0, if_neg (by decide)]
  · rw [if_neg h0, if_neg h0, if_pos rfl]
/-- What the others hold. -/
theorem Chg.read {img c : List ByteArray} {i : Nat} {r : RecI} (h : Chg img c i r) {x : Int} (hne : x ≠ i) : readI c x = readI img x := by
  rcases getI_cases img x with hg | ⟨j, rfl, hj, hg⟩
  · have hc : getI c x = (zeroR 0, 15) := by
      unfold getI at hg ⊢
      rw [h.len]
      split at hg
      · next hh => rw [if_pos hh]
      · injection hg with _ h2; cases h2
    unfold readI
    rw [heldI_of hg, heldI_of hc, if_neg (by simp), if_neg (by simp)]
  · have hji : j ≠ i := fun e => hne (by rw [e])
    have hrec := h.rec2 hj hji
    rw [readI_at hj, readI_at (by rw [h.len]; exact hj), hrec]
    have hfl : flatR c (recI img j) = flatR img (recI img j) := by
      unfold flatR
      have hb : ∀ b ∈ dataR (recI img j), blkI c b = blkI img b := fun b hb => (h.oth j hj hji).2 b (List.mem_append_left _ hb)
      generalize dataR (recI img j) = l at hb
      induction l with
      | nil => rfl
      | cons a l ih => rw [List.flatMap_cons, List.flatMap_cons, ih fun b hb2 => hb b (List.mem_cons_of_mem _ hb2), hb a List.mem_cons_self]
    rw [hfl]
theorem heldI_err {img : List ByteArray} {i : Int} (h : (heldI img i).2 ≠ 0) (at_ : Int) (data : ByteArray) : writeI img i at_ data = (img, (heldI img i).2) := by unfold writeI; rw [if_pos h]
theorem readI_two (img : List ByteArray) (i : Int) : (readI img i).2 = (heldI img i).2 := by
  unfold readI
  split
  · next h => exact h.symm
  · rfl
/-- What a write that went through leaves. -/
structure Wrote (img c : List ByteArray) (i a : Nat) (data : ByteArray) : Prop where
  sound : SoundQ c
  len : c.length = img.length
  other : ∀ x : Int, x ≠ i → readI c x = readI img x
  ok : (readI c (i : Int)).2 = 0
  size : (readI c (i : Int)).1.size = max (readI img (i : Int)).1.size (a + data.size)
  byte : ∀ k, k < (readI c (i : Int)).1.size → (readI c (i : Int)).1.data.toList.getD k 0 = if a ≤ k ∧ k < a + data.size then data.data.toList.getD (k - a) 0 else if k < (readI img (i : Int)).1.size then (readI img (i : Int)).1.data.toList.getD k 0 else 0
  few : a + data.size ≤ 8704 ∧ (readI img (i : Int)).1.size ≤ 8704
  kind : (recI c i).kind ≠ 0
  inn : i < cntA img.length
theorem take_getD {l : List UInt8} {n k : Nat} (hk : k < n) : (l.take n).getD k 0 = l.getD k 0 := by
  rw [List.getD_eq_getElem?_getD, List.getD_eq_getElem?_getD, List.getElem?_take, if_pos hk]
theorem mkB_list (l : List UInt8) : (mkB l).data.toList = l := by simp [mkB]
theorem write_ok {img : List ByteArray} (hs : SoundQ img) {i at_ : Int} {data : ByteArray} :
    ((writeI img i at_ data).2 ≠ 0 ∧ (writeI img i at_ data).1 = img ∧ ((writeI img i at_ data).2 = (heldI img i).2 ∨ ((heldI img i).2 = 0 ∧ ((writeI img i at_ data).2 = 13 ∨ (writeI img i at_ data).2 = 12 ∨ (writeI img i at_ data).2 = 18)))) ∨
    ∃ k a : Nat, i = k ∧ at_ = a ∧ (writeI img i at_ data).2 = 0 ∧ (heldI img i).2 = 0 ∧ Wrote img (writeI img i at_ data).1 k a data ∧ ∃ r, Chg img (writeI img i at_ data).1 k r ∧ (r.kind = 1 ∨ r.kind = 2) := by
  by_cases hh : (heldI img i).2 = 0
  rotate_left
  · left
    rw [heldI_err hh]
    exact ⟨hh, rfl, .inl rfl⟩
  rcases getI_cases img i with hg | ⟨k, rfl, hk, hg⟩
  · rw [heldI_of hg] at hh; cases hh
  have hkd : (recI img k).kind ≠ 0 := fun h0 => by rw [heldI_at hg, if_pos h0] at hh; cases hh
  have hH : heldI img (k : Int) = (recI img k, 0) := by rw [heldI_at hg, if_neg hkd]
  have hkk : (recI img k).kind = 1 ∨ (recI img k).kind = 2 := (form_kind (hs.form k hk)).resolve_left hkd
  have hC := (first_le hs.fit.1.1 hs.fit.1.2).2.2.2.1
  have hr := recI_ok img k (by omega)
  have hfs := form_size hkk (hs.form k hk)
  have hn68 := need_le hfs.1
  have hd0 : (dataR (recI img k)).length = needN (recI img k).size := by rw [dataR_length hr]; omega
  have hw : writeI img (k : Int) at_ data = if at_ < 0 then (img, 13) else if 8704 < at_ ∨ 8704 - at_ < (data.size : Int) then (img, 12) else
    if ((recI img k).size : Int) < at_ + data.size then
      if (truncI img k (at_ + data.size)).2 ≠ 0 then truncI img k (at_ + data.size) else (laidW at_.toNat data (truncI img k (at_ + data.size)).1 (recI (truncI img k (at_ + data.size)).1 k), 0)
    else (laidW at_.toNat data img (recI img k), 0) := by
    unfold writeI
    rw [hH, if_neg (by simp), Int.toNat_natCast]
  rw [hw]
  by_cases h1 : at_ < 0
  · left
    rw [if_pos h1]
    exact ⟨(by decide : (13 : Int) ≠ 0), rfl, .inr ⟨hh, .inl rfl⟩⟩
  rw [if_neg h1]
  obtain ⟨a, rfl⟩ : ∃ a : Nat, at_ = a := ⟨at_.toNat, by omega⟩
  by_cases h2 : (8704 : Int) < (a : Int) ∨ (8704 : Int) - (a : Int) < (data.size : Int)
  · left
    rw [if_pos h2]
    exact ⟨(by decide : (12 : Int) ≠ 0), rfl, .inr ⟨hh, .inr (.inl rfl)⟩⟩
  rw [if_neg h2, Int.toNat_natCast]
  have hen8 : a + data.size ≤ 8704 := by omega
  have hwas : readI img (k : Int) = (mkB ((flatR img (recI img k)).take (recI img k).size), 0) := by rw [readI_at hk, if_neg hkd]
  have hfl0 := flatR_len img (recI img k)
  have hwsz : (readI img (k : Int)).1.size = (recI img k).size := by
    rw [hwas, mkB_size, List.length_take, hfl0, hd0]
    have : (recI img k).size ≤ 128 * needN (recI img k).size := by unfold needN; omega
    omega
  by_cases h3 : ((recI img k).size : Int) < (a : Int) + (data.size : Int)
  · rw [if_pos h3, show (a : Int) + (data.size : Int) = ((a + data.size : Nat) : Int) by omega]
    rcases trunc_sound hs hk hkd hen8 with ⟨he, _⟩ | ⟨c, dl, ind, he, hc, hdl, hin, hX⟩
    · left
      rw [he, if_pos (by simp)]
      exact ⟨(by decide : (18 : Int) ≠ 0), rfl, .inr ⟨hh, .inr (.inr rfl)⟩⟩
    · right
      rw [he, if_neg (by simp)]
      have hlt : (recI img k).size < a + data.size := by omega
      obtain ⟨X, rfl, hbo, hbx⟩ := hX (by omega)
      have hcl : k < cntA c.length := by rw [hc.len]; exact hk
      have hck : (recI c k).kind ≠ 0 := by rw [hc.rec1]; exact hkd
      have hcs : (recI c k).size = a + data.size := by rw [hc.rec1]; rfl
      obtain ⟨hl1, hl2⟩ := laid_sound hc.sound hcl hck (at_ := a) (data := data) (by omega)
      have hall := hc.trans hl1
      have hdc : dataR (recI c k) = dataR (recI img k) ++ X := by rw [hc.rec1]; exact dataR_name hdl (need_le hen8)
      refine ⟨k, a, rfl, rfl, rfl, hh, ?_, recI c k, hall, by rw [hc.rec1]; exact hkk⟩
      show Wrote img (laidW a data c (recI c k)) k a data
      generalize laidW a data c (recI c k) = w at *
      have hwk : k < cntA w.length := by rw [hall.len]; exact hk
      have hnow : readI w (k : Int) = (mkB ((flatR w (recI c k)).take (a + data.size)), 0) := by rw [readI_at hwk, hall.rec1, if_neg hck, hcs]
      have hflw := flatR_len w (recI c k)
      have hflc := flatR_len c (recI c k)
      have hdl2 : (dataR (recI c k)).length = needN (a + data.size) := by rw [hdc]; exact hdl
      have hnen : a + data.size ≤ 128 * needN (a + data.size) := by unfold needN; omega
      have hnsz : (readI w (k : Int)).1.size = a + data.size := by
        rw [hnow, mkB_size, List.length_take, hflw, hdl2]; omega
      refine ⟨hall.sound, hall.len, fun x hx => hall.read hx, by rw [hnow], by rw [hnsz, hwsz]; omega, fun p hp => ?_, ⟨hen8, by rw [hwsz]; exact hfs.1⟩, by rw [hall.rec1]; exact hck, hk⟩
      rw [hnsz] at hp
      rw [hwsz, hnow]
      show (mkB _).data.toList.getD p 0 = _
      rw [mkB_list, take_getD hp, hl2 p (by rw [hcs]; omega)]
      by_cases hr1 : a ≤ p ∧ p < a + data.size
      · rw [if_pos hr1, if_pos hr1]
      · rw [if_neg hr1, if_neg hr1, flat_getD (by rw [hdl2]; omega), hdc]
        by_cases hq : p / 128 < (dataR (recI img k)).length
        · have hbm : (dataR (recI img k)).getD (p / 128) 0 ∈ dataR (recI img k) := by rw [List.getD_eq_getElem?_getD, List.getElem?_eq_getElem hq]; exact List.getElem_mem _
          rw [show (dataR (recI img k) ++ X).getD (p / 128) 0 = (dataR (recI img k)).getD (p / 128) 0 by rw [List.getD_eq_getElem?_getD, List.getElem?_append_left hq, List.getD_eq_getElem?_getD], hbo _ hbm hlt, ← flat_getD (by omega)]
          by_cases hps : p < (recI img k).size
          · rw [if_pos hps, hwas]
            show _ = (mkB _).data.toList.getD p 0
            rw [mkB_list, take_getD hps]
          · rw [if_neg hps]
            have hpos : 0 < needN (recI img k).size := by omega
            have ht := flat_tail (img := img) hr hpos hfs.1
            rw [tail_zero hs.fit hr hkk (hs.form k hk) hpos] at ht
            have hg : (flatR img (recI img k)).getD p 0 = ((flatR img (recI img k)).drop (recI img k).size).getD (p - (recI img k).size) 0 := by
              rw [List.getD_eq_getElem?_getD, List.getD_eq_getElem?_getD, List.getElem?_drop, show (recI img k).size + (p - (recI img k).size) = p by omega]
            rw [hg, ht, List.getD_eq_getElem?_getD, List.getElem?_replicate]
            split <;> rfl
        · have hqs : ¬ p < (recI img k).size := fun h => hq (by rw [hd0]; unfold needN; omega)
          rw [if_neg hqs]
          have hbm : (dataR (recI img k) ++ X).getD (p / 128) 0 ∈ X := by
            rw [List.getD_eq_getElem?_getD, List.getElem?_append_right (by omega), List.getElem?_eq_getElem (by rw [hdc, List.length_append] at hdl2; omega)]
            exact List.getElem_mem _
          rw [hbx _ hbm hlt]
          have : zeroB.data.toList = List.replicate 128 0 := by rw [← zeroN_eq, zeroN_toList]
          rw [this, List.getD_eq_getElem?_getD, List.getElem?_replicate]
          split <;> rfl
  · rw [if_neg h3]
    right
    obtain ⟨hl1, hl2⟩ := laid_sound hs hk hkd (at_ := a) (data := data) (by omega)
    refine ⟨k, a, rfl, rfl, rfl, hh, ?_, recI img k, hl1, hkk⟩
    show Wrote img (laidW a data img (recI img k)) k a data
    generalize laidW a data img (recI img k) = w at *
    have hwk : k < cntA w.length := by rw [hl1.len]; exact hk
    have hnow : readI w (k : Int) = (mkB ((flatR w (recI img k)).take (recI img k).size), 0) := by rw [readI_at hwk, hl1.rec1, if_neg hkd]
    have hflw := flatR_len w (recI img k)
    have hnen : (recI img k).size ≤ 128 * needN (recI img k).size := by unfold needN; omega
    have hnsz : (readI w (k : Int)).1.size = (recI img k).size := by rw [hnow, mkB_size, List.length_take, hflw, hd0]; omega
    refine ⟨hl1.sound, hl1.len, fun x hx => hl1.read hx, by rw [hnow], by rw [hnsz, hwsz]; omega, fun p hp => ?_, ⟨hen8, by rw [hwsz]; exact hfs.1⟩, by rw [hl1.rec1]; exact hkd, hk⟩
    rw [hnsz] at hp
    rw [hwsz, hnow]
    show (mkB _).data.toList.getD p 0 = _
    rw [mkB_list, take_getD hp, hl2 p (by omega)]
    by_cases hr1 : a ≤ p ∧ p < a + data.size
    · rw [if_pos hr1, if_pos hr1]
    · rw [if_neg hr1, if_neg hr1, if_pos hp, hwas]
      show _ = (mkB _).data.toList.getD p 0
      rw [mkB_list, take_getD hp]

end Go.Proofs.Ytcfmpmcdfllibaa

/-
  InodeKeeps is true of every list of texts, every numbers, every text.
-/
namespace Go.Proofs.Ytcfmpmcdfllibaa
open Go.RowKit

theorem not_sound {a : List ByteArray} (hs : ¬ SoundP a) : soundR a = false := by
  cases h : soundR a with
  | false => rfl
  | true => exact absurd ((soundR_iff a).1 h) hs
theorem byte_at {s : ByteArray} {k : Nat} (h : k < s.size) : (s[k]'h) = (s.data.toList.getD k 0) := by
  rw [List.getD_eq_getElem?_getD, List.getElem?_eq_getElem (by simpa using h)]; rfl

set_option maxRecDepth 100000 in
set_option maxHeartbeats 8000000 in
theorem inodeKeeps_any (P : Option Addr) (p pc : Nat) (a : List ByteArray) (i at_ : Int) (data : ByteArray) (other : Int) (w : World) (hP : Reads w w.heap.size 1 P p (encS a)) (hp : p * 16 ≤ 140737488355328) (hat0 : -9223372036854775808 ≤ at_) (hat1 : at_ ≤ 9223372036854775807) (hds : data.size ≤ 140737488355328) :
    Calls Try.prog 5 #[.slice P p pc, .int .i64 i, .int .i64 at_, .string data, .int .i64 other] w fun e w' => e = .returned (.bool true) ∧ Below w.heap.size w w' := by
  have H := Lib.hid hP
  have hl := hP.lenS
  have c1 := refSound_any P p pc a w hP hp
  by_cases hs : SoundP a
  rotate_left
  · rw [not_sound hs] at c1
    clear hP hs
    go_enter Try.func5, Try.ntmps5
    go_wp2_with fail
    refine c1.mono ?_
    rintro e w1 ⟨rfl, hb1⟩
    have R1 := Lib.hid hb1
    clear hb1 c1
    go_wp2_with fail
    refine (awake5_any _).mono ?_
    rintro e w3 ⟨rfl, hb3⟩
    have R3 := Lib.hid (bstep R1.out hb3)
    clear R1 hb3
    go_wp2
    go_ret
    exact ⟨rfl, R3.out⟩
  rw [(soundR_iff a).2 hs] at c1
  have h5 : p ≤ 512 := by have := hs.fit.1; omega
  have hq := (soundQ_iff a).1 hs
  have cR := fun W hW => readI_any P p pc a i W hW h5
  have cO := fun W hW => readI_any P p pc a other W hW h5
  have cW := fun W hW => writeI_any P p pc a i at_ data W hW hs.fit.map hat0 hat1 hds
  unfold ReadP at cR cO
  have hr2 := readI_two a i
  have hwk := write_ok hq (i := i) (at_ := at_) (data := data)
  rcases hwk with ⟨hne, himg, _⟩ | ⟨k, q, rfl, rfl, hw0, hh0, hW, _⟩
  · have hnb : ((writeI a i at_ data).2 != 0) = true := by rw [bne_iff_ne]; exact hne
    clear hne hq hs
    generalize writeI a i at_ data = y at *
    obtain ⟨ya, ye⟩ := y
    dsimp only at *
    subst himg
    generalize readI ya i = x at *
    obtain ⟨xs, xe⟩ := x
    dsimp only at *
    have tya : decide (ya = ya) = true := decide_eq_true rfl
    obtain ⟨bx, hbx⟩ : ∃ b : Bool, (xe != 0) = b := ⟨_, rfl⟩
    clear hr2 hP
    go_enter Try.func5, Try.ntmps5
    go_wp2_with fail
    refine c1.mono ?_
    rintro e w1 ⟨rfl, hb1⟩
    have R1 := Lib.hid hb1
    clear hb1 c1
    go_wp2_with fail
    refine (cR _ (H.out.step R1.out)).mono ?_
    rintro e w2 ⟨rfl, hb2⟩
    have R2 := Lib.hid (bstep R1.out hb2)
    clear hb2 R1 cR
    go_wp2_with fail
    refine (cW _ (H.out.step R2.out)).mono ?_
    rintro e w3 ⟨g3, n3, c3, rfl, hO3, hn3, hb3⟩
    have R3 := Lib.hid (And.intro hO3.reads (bstep R2.out hb3))
    clear hb3 hO3 R2 cW
    cases bx with
    | true =>
      go_wp2_with fail
      refine (refTexts_any _ _ _ _ _ _ ya ya _ R3.out.1 (H.out.step R3.out.2) (by omega) (by omega)).mono ?_
      rintro e w4 ⟨rfl, hb4⟩
      have R4 := Lib.hid (bstep R3.out.2 hb4)
      clear hb4 R3
      go_wp2_with fail
      refine (awake5_any _).mono ?_
      rintro e w5 ⟨rfl, hb5⟩
      have R5 := Lib.hid (bstep R4.out hb5)
      clear R4 hb5
      go_wp2
      go_ret
      exact ⟨rfl, R5.out⟩
    | false =>
      go_wp2_with fail
      refine (refTexts_any _ _ _ _ _ _ ya ya _ R3.out.1 (H.out.step R3.out.2) (by omega) (by omega)).mono ?_
      rintro e w4 ⟨rfl, hb4⟩
      have R4 := Lib.hid (bstep R3.out.2 hb4)
      clear hb4 R3
      go_wp2_with fail
      refine (awake5_any _).mono ?_
      rintro e w5 ⟨rfl, hb5⟩
      have R5 := Lib.hid (bstep R4.out hb5)
      clear R4 hb5
      go_wp2
      go_ret
      exact ⟨rfl, R5.out⟩
  · rw [hh0] at hr2
    have hsc : soundI (writeI a (k : Int) (q : Int) data).1 = true := (soundI_iff _).2 ((soundQ_iff _).2 hW.sound)
    have hcl := hW.len
    have hot := fun h => hW.other other h
    have hok := hW.ok
    have hsz := hW.size
    have hby := Lib.hid hW.byte
    have hfew := hW.few
    clear hq hs hh0 hP hW
    generalize writeI a (k : Int) (q : Int) data = y at *
    obtain ⟨ya, ye⟩ := y
    dsimp only at *
    subst hw0
    have cR2 := fun A n c W hW hn => readI_any A n c ya (k : Int) W hW hn
    have cO2 := fun A n c W hW hn => readI_any A n c ya other W hW hn
    have cS := fun A n c W hW hn => soundI_any A n c ya W hW hn
    unfold ReadP at cR2 cO2
    rw [hsc] at cS
    generalize readI a (k : Int) = x at *
    obtain ⟨was, xe⟩ := x
    generalize readI ya (k : Int) = x2 at *
    obtain ⟨now, ne⟩ := x2
    dsimp only at *
    subst hr2
    subst hok
    have hmx : max (was.size : Int) ((q : Int) + (data.size : Int)) = (now.size : Int) := by omega
    have hwq : IntKind.i64.wrap ((q : Int) + (data.size : Int)) = (q : Int) + (data.size : Int) := by rw [IntKind.wrap_i64]; omega
    have hnn : ((now.size : Int) != (now.size : Int)) = false := by simp
    have hn87 : now.size ≤ 8704 := by omega
    go_enter Try.func5, Try.ntmps5
    go_wp2_with fail
    refine c1.mono ?_
    rintro e w1 ⟨rfl, hb1⟩
    have R1 := Lib.hid hb1
    clear hb1 c1
    go_wp2_with fail
    refine (cR _ (H.out.step R1.out)).mono ?_
    rintro e w2 ⟨rfl, hb2⟩
    have R2 := Lib.hid (bstep R1.out hb2)
    clear hb2 R1 cR
    go_wp2_with fail
    refine (cW _ (H.out.step R2.out)).mono ?_
    rintro e w3 ⟨g3, n3, c3, rfl, hO3, hn3, hb3⟩
    have R3 := Lib.hid (And.intro hO3.reads (bstep R2.out hb3))
    clear hb3 hO3 R2 cW
    go_wp2_with fail
    refine (cR2 _ _ _ _ R3.out.1 hn3).mono ?_
    rintro e w4 ⟨rfl, hb4⟩
    have R4 := Lib.hid (And.intro (R3.out.1.step hb4) (bstep R3.out.2 hb4))
    clear hb4 R3 cR2
    go_wp2_with fail
    refine (cS _ _ _ _ R4.out.1 (by omega)).mono ?_
    rintro e w5 ⟨rfl, hb5⟩
    have R5 := Lib.hid (And.intro (R4.out.1.step hb5) (bstep R4.out.2 hb5))
    clear hb5 R4 cS
    go_wp2_with fail
    go_loopg [84] now.size (fun g2 s84 wr => ∃ j : Nat, j ≤ now.size ∧ now.size - j ≤ g2 ∧ s84 = .int .i64 j ∧ w5 = wr)
    case atStart => exact ⟨0, by omega, by omega, rfl, rfl⟩
    case round =>
      obtain ⟨j, hj, hg, rfl, rfl⟩ := hrel
      by_cases hlt : j < now.size
      · have hin : (j : Int) < (now.size : Int) := by omega
        have hB := hby.out j hlt
        rw [← byte_at hlt] at hB
        by_cases hr1 : q ≤ j ∧ j < q + data.size
        · obtain ⟨d, hd2⟩ : ∃ d, d = j - q := ⟨_, rfl⟩
          have hd : d < data.size := by omega
          rw [if_pos hr1, ← hd2, ← byte_at hd] at hB
          have hdi : (j : Int) - (q : Int) = (d : Int) := by omega
          have hge : (q : Int) ≤ (j : Int) := by omega
          have hlq : (j : Int) < (q : Int) + (data.size : Int) := by omega
          have hdn : (d : Int) < (data.size : Int) := by omega
          have hx : (((now[j].toNat : Nat) : Int) != ((data[d].toNat : Nat) : Int)) = false := by rw [hB]; simp
          clear hd2 hr1 hB
          go_wp2_with fail
          go_roundg (now.size - (j + 1))
          case measure => omega
          case rel => exact ⟨j + 1, by omega, by omega, by go_num, rfl⟩
        · rw [if_neg hr1] at hB
          have hnq : (decide ((q : Int) ≤ (j : Int)) && decide ((j : Int) < (q : Int) + (data.size : Int))) = false := by simp; omega
          by_cases hw1 : j < was.size
          · rw [if_pos hw1, ← byte_at hw1] at hB
            have hwi : (j : Int) < (was.size : Int) := by omega
            have hx : (((now[j].toNat : Nat) : Int) != ((was[j].toNat : Nat) : Int)) = false := by rw [hB]; simp
            clear hB
            by_cases hge0 : q ≤ j
            · have hge : (q : Int) ≤ (j : Int) := by omega
              have hlq : ¬ (j : Int) < (q : Int) + (data.size : Int) := by omega
              go_wp2_with fail
              go_roundg (now.size - (j + 1))
              case measure => omega
              case rel => exact ⟨j + 1, by omega, by omega, by go_num, rfl⟩
            · have hge : ¬ (q : Int) ≤ (j : Int) := by omega
              go_wp2_with fail
              go_roundg (now.size - (j + 1))
              case measure => omega
              case rel => exact ⟨j + 1, by omega, by omega, by go_num, rfl⟩
          · rw [if_neg hw1] at hB
            have hwi : ¬ (j : Int) < (was.size : Int) := by omega
            have hx : (((now[j].toNat : Nat) : Int) != 0) = false := by rw [hB]; simp
            clear hB
            by_cases hge0 : q ≤ j
            · exact absurd hmx (by omega)
            · have hge : ¬ (q : Int) ≤ (j : Int) := by omega
              go_wp2_with fail
              go_roundg (now.size - (j + 1))
              case measure => omega
              case rel => exact ⟨j + 1, by omega, by omega, by go_num, rfl⟩
      · have : j = now.size := by omega
        subst this
        clear hby
        by_cases ho : other = (k : Int)
        · generalize readI a other = y1 at *
          obtain ⟨o1, e1⟩ := y1
          generalize readI ya other = y2 at *
          obtain ⟨o2, e2⟩ := y2
          dsimp only at *
          subst ho
          clear hot
          go_wp2_with fail
          refine (cO _ (H.out.step R5.out.2)).mono ?_
          rintro e w6 ⟨rfl, hb6⟩
          have R6 := Lib.hid (And.intro (R5.out.1.step hb6) (bstep R5.out.2 hb6))
          clear hb6 R5 cO
          go_wp2_with fail
          refine (cO2 _ _ _ _ R6.out.1 (by omega)).mono ?_
          rintro e w7 ⟨rfl, hb7⟩
          have R7 := Lib.hid (bstep R6.out.2 hb7)
          clear hb7 R6 cO2
          go_wp2_with fail
          refine (awake5_any _).mono ?_
          rintro e w8 ⟨rfl, hb8⟩
          have R8 := Lib.hid (bstep R7.out hb8)
          clear R7 hb8
          go_wp2
          go_ret
          exact ⟨rfl, R8.out⟩
        · have hot2 := hot ho
          rw [hot2] at cO2
          generalize readI a other = y1 at *
          obtain ⟨o1, e1⟩ := y1
          dsimp only at *
          clear hot hot2
          have t1 : decide (o1 = o1) = true := decide_eq_true rfl
          have t2 : decide (e1 = e1) = true := decide_eq_true rfl
          go_wp2_with fail
          refine (cO _ (H.out.step R5.out.2)).mono ?_
          rintro e w6 ⟨rfl, hb6⟩
          have R6 := Lib.hid (And.intro (R5.out.1.step hb6) (bstep R5.out.2 hb6))
          clear hb6 R5 cO
          go_wp2_with fail
          refine (cO2 _ _ _ _ R6.out.1 (by omega)).mono ?_
          rintro e w7 ⟨rfl, hb7⟩
          have R7 := Lib.hid (bstep R6.out.2 hb7)
          clear hb7 R6 cO2
          go_wp2_with fail
          refine (awake5_any _).mono ?_
          rintro e w8 ⟨rfl, hb8⟩
          have R8 := Lib.hid (bstep R7.out hb8)
          clear R7 hb8
          go_wp2
          go_ret
          exact ⟨rfl, R8.out⟩

end Go.Proofs.Ytcfmpmcdfllibaa
