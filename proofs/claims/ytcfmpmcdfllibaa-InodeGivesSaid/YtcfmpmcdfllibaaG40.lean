/-
  One made, written, cut to nothing or taken away: as many blocks are free as before.
-/
import Derived.Test.YtcfmpmcdfllibaaG39
namespace Go.Proofs.Ytcfmpmcdfllibaa
open Go.RowKit

theorem held_in {img : List ByteArray} {k : Nat} (hk : k < cntA img.length) (h0 : (recI img k).kind ≠ 0) : heldI img (k : Int) = (recI img k, 0) := by rw [heldI_at (getI_in hk), if_neg h0]
theorem Chg.free {a c : List ByteArray} {i : Nat} {r : RecI} (hs : SoundQ a) (hi : i < cntA a.length) (h0 : (recI a i).kind = 0) (h : Chg a c i r) (hr : namedR r = []) : (freeA c).length = (freeA a).length := by
  refine free_same hs h.sound h.len fun j hj => ?_
  by_cases e : j = i
  · subst e
    rw [h.rec1, hr, zero_named (sound_free ((soundQ_iff a).2 hs) hi h0)]
  · rw [h.rec2 hj e]
/-- What the law asks of the three. -/
structure GaveI (a w : List ByteArray) (i : Nat) (code : Int) : Prop where
  code : code = 0 ∨ code = 18 ∨ code = 12 ∨ code = 13
  sound : SoundQ w
  len : w.length = a.length
  cut : (truncI w (i : Int) 0).2 = 0
  cutS : SoundQ (truncI w (i : Int) 0).1
  cutL : (truncI w (i : Int) 0).1.length = a.length
  cutF : (freeA (truncI w (i : Int) 0).1).length = (freeA a).length
  drop : (dropI w (i : Int)).2 = 0
  dropS : SoundQ (dropI w (i : Int)).1
  dropL : (dropI w (i : Int)).1.length = a.length
  dropF : (freeA (dropI w (i : Int)).1).length = (freeA a).length
theorem new_gives {a : List ByteArray} (hs : SoundQ a) {x : Int} (h : (newI a x).2.2 = 0) : (x = 1 ∨ x = 2) ∧ (newI a x).2.1 < cntA a.length ∧ (recI a (newI a x).2.1).kind = 0 ∧ Chg a (newI a x).1 (newI a x).2.1 { zeroR (newI a x).2.1 with kind := x.toNat } := by
  by_cases hx : x ≠ 1 ∧ x ≠ 2
  · have e : newI a x = (a, 0, 21) := by unfold newI; rw [if_pos hx]
    rw [e] at h; cases h
  have hx2 : x = 1 ∨ x = 2 := by omega
  cases hf : freeI a (cntA a.length) with
  | none =>
    have e : newI a x = (a, 0, 18) := by unfold newI; rw [if_neg hx, hf]
    rw [e] at h; cases h
  | some i =>
    have e : newI a x = (saveR a { recI a i with kind := x.toNat }, i, 0) := by unfold newI; rw [if_neg hx, hf]
    have hi := freeI_some hf
    have hq : x.toNat = 1 ∨ x.toNat = 2 := by omega
    have hn := new_chg hs hq hi.1 hi.2
    generalize saveR a { recI a i with kind := x.toNat } = c at e hn
    rw [e]
    dsimp only
    exact ⟨hx2, hi.1, hi.2, hn⟩
theorem gives_ok {a : List ByteArray} (hs : SoundQ a) {x : Int} (h : (newI a x).2.2 = 0) (at_ : Int) (data : ByteArray) :
    GaveI a (writeI (newI a x).1 ((newI a x).2.1 : Int) at_ data).1 (newI a x).2.1 (writeI (newI a x).1 ((newI a x).2.1 : Int) at_ data).2 := by
  obtain ⟨hx, hi, h0, hc⟩ := new_gives hs h
  generalize newI a x = y at *
  obtain ⟨c, i, ec⟩ := y
  dsimp only at *
  clear h
  have hic : i < cntA c.length := by rw [hc.len]; exact hi
  have hkc : (recI c i).kind ≠ 0 := by rw [hc.rec1]; show x.toNat ≠ 0; omega
  have hw : ((writeI c (i : Int) at_ data).2 = 0 ∨ (writeI c (i : Int) at_ data).2 = 18 ∨ (writeI c (i : Int) at_ data).2 = 12 ∨ (writeI c (i : Int) at_ data).2 = 13) ∧ ∃ r, Chg a (writeI c (i : Int) at_ data).1 i r ∧ (r.kind = 1 ∨ r.kind = 2) := by
    rcases write_ok hc.sound (i := (i : Int)) (at_ := at_) (data := data) with ⟨hne, hw, hcode⟩ | ⟨k, q, hk, _, hok, _, _, r, hr, hkind⟩
    · refine ⟨?_, { zeroR i with kind := x.toNat }, by rw [hw]; exact hc, by show x.toNat = 1 ∨ x.toNat = 2; omega⟩
      rcases hcode with h1 | ⟨_, h1 | h1 | h1⟩
      · exact absurd (h1.trans (by rw [held_in hic hkc])) hne
      · exact .inr (.inr (.inr h1))
      · exact .inr (.inr (.inl h1))
      · exact .inr (.inl h1)
    · have hk2 : k = i := by omega
      subst hk2
      exact ⟨.inl hok, r, hc.trans hr, hkind⟩
  obtain ⟨hcode, r, hr, hkr⟩ := hw
  generalize writeI c (i : Int) at_ data = y at *
  obtain ⟨w, ew⟩ := y
  dsimp only at *
  clear hc hic hkc
  have hiw : i < cntA w.length := by rw [hr.len]; exact hi
  have hkw : (recI w i).kind ≠ 0 := by rw [hr.rec1]; omega
  have hhw := held_in hiw hkw
  rcases trunc_sound hr.sound hiw hkw (size := 0) (by omega) with ⟨_, hbad⟩ | ⟨t, dl, ind, ht, hct, hdl, hin, _⟩
  · omega
  have ht0 : truncI w (i : Int) 0 = (t, 0) := ht
  obtain ⟨m, hg, hcd⟩ := drop_chg hr.sound hiw
  have hd0 : dropI w (i : Int) = (saveR m (zeroR i), 0) := by
    unfold dropI
    rw [hhw, if_neg (by simp), hg, if_pos rfl]
    rfl
  have hat := hr.trans hct
  have had := hr.trans hcd
  have hdl0 : dl = [] := List.eq_nil_of_length_eq_zero (by rw [hdl]; rfl)
  have hin0 : ind = 0 := by have : needN 0 = 0 := rfl; omega
  subst hdl0
  subst hin0
  have hn1 : namedR (nameR (recI w i) 0 [] 0) = [] := by
    unfold namedR
    rw [dataR_name (size := 0) rfl (by omega)]
    rfl
  have hn2 : namedR (zeroR i) = [] := by simp [namedR, dataR, zeroR, needN]
  exact ⟨hcode, hr.sound, hr.len, by rw [ht0], by rw [ht0]; exact hat.sound, by rw [ht0]; exact hat.len, by rw [ht0]; exact Chg.free hs hi h0 hat hn1, by rw [hd0], by rw [hd0]; exact had.sound, by rw [hd0]; exact had.len, by rw [hd0]; exact Chg.free hs hi h0 had hn2⟩

end Go.Proofs.Ytcfmpmcdfllibaa

/-
  InodeGives is true of every list of texts, every numbers, every text.
-/
namespace Go.Proofs.Ytcfmpmcdfllibaa
open Go.RowKit

set_option maxRecDepth 100000 in
set_option maxHeartbeats 8000000 in
theorem inodeGives_any (P : Option Addr) (p pc : Nat) (a : List ByteArray) (x at_ : Int) (data : ByteArray) (w : World) (hP : Reads w w.heap.size 1 P p (encS a)) (hp : p * 16 ≤ 140737488355328) (hat0 : -9223372036854775808 ≤ at_) (hat1 : at_ ≤ 9223372036854775807) (hds : data.size ≤ 140737488355328) :
    Calls Try.prog 6 #[.slice P p pc, .int .i64 x, .int .i64 at_, .string data] w fun e w' => e = .returned (.bool true) ∧ Below w.heap.size w w' := by
  have H := Lib.hid hP
  have hl := hP.lenS
  have c1 := refSound_any P p pc a w hP hp
  by_cases hs : SoundP a
  rotate_left
  · rw [not_sound hs] at c1
    clear hP hs
    go_enter Try.func6, Try.ntmps6
    go_wp2_with fail
    refine c1.mono ?_
    rintro e w1 ⟨rfl, hb1⟩
    have R1 := Lib.hid hb1
    clear hb1 c1
    go_wp2_with fail
    refine (awake5_any _).mono ?_
    rintro e w3 ⟨rfl, hb3⟩
    have R3 := Lib.hid (bstep R1.out hb3)
    clear R1 hb3
    go_wp2
    go_ret
    exact ⟨rfl, R3.out⟩
  rw [(soundR_iff a).2 hs] at c1
  have h8 : 8 ≤ p := by have := hs.fit.1; omega
  have h5 : p ≤ 512 := by have := hs.fit.1; omega
  have hq := (soundQ_iff a).1 hs
  have cN := fun W hW => newI_any P p pc a x W hW h8 h5
  have cFa := fun W hW => freeA_any P p pc a W hW hs.fit.map
  unfold ImgNO at cN
  by_cases hne : (newI a x).2.2 = 0
  rotate_left
  · have hnb : ((newI a x).2.2 != 0) = true := by rw [bne_iff_ne]; exact hne
    clear hne hq hs hP cFa
    generalize newI a x = y at *
    obtain ⟨c, i, ec⟩ := y
    dsimp only at *
    go_enter Try.func6, Try.ntmps6
    go_wp2_with fail
    refine c1.mono ?_
    rintro e w1 ⟨rfl, hb1⟩
    have R1 := Lib.hid hb1
    clear hb1 c1
    go_wp2_with fail
    refine (cN _ (H.out.step R1.out)).mono ?_
    rintro e w2 ⟨g2, n2, c2, rfl, hO2, hn2, hb2⟩
    have R2 := Lib.hid (bstep R1.out hb2)
    clear hb2 hO2 R1 cN
    go_wp2_with fail
    refine (awake5_any _).mono ?_
    rintro e w3 ⟨rfl, hb3⟩
    have R3 := Lib.hid (bstep R2.out hb3)
    clear R2 hb3
    go_wp2
    go_ret
    exact ⟨rfl, R3.out⟩
  have hg := gives_ok hq hne at_ data
  have hsc := (new_gives hq hne).2.2.2
  have hfc := hsc.sound.fit
  have hlc := hsc.len
  clear hsc hq hs hP
  generalize newI a x = y at *
  obtain ⟨c, i, ec⟩ := y
  dsimp only at *
  subst hne
  have cW := fun A n pc W hW => writeI_any A n pc c (i : Int) at_ data W hW hfc.map hat0 hat1 hds
  obtain ⟨hcode, hws, hwl, ht2, hts, htl, htf, hd2, hds2, hdl, hdf⟩ := hg
  generalize writeI c (i : Int) at_ data = y at *
  obtain ⟨wi, we⟩ := y
  dsimp only at *
  have hfw := hws.fit
  have cT := fun A n pc W hW => truncI_any A n pc wi (i : Int) 0 W hW hfw.map (by decide) (by decide)
  have cD := fun A n pc W hW => dropI_any A n pc wi (i : Int) W hW hfw.map
  generalize truncI wi (i : Int) 0 = y at *
  obtain ⟨ti, te⟩ := y
  generalize dropI wi (i : Int) = y at *
  obtain ⟨di, de⟩ := y
  dsimp only at *
  subst ht2
  subst hd2
  have s1 := (soundI_iff _).2 ((soundQ_iff _).2 hts)
  have s2 := (soundI_iff _).2 ((soundQ_iff _).2 hds2)
  have cS1 := fun A n pc W hW hn => soundI_any A n pc ti W hW hn
  have cS2 := fun A n pc W hW hn => soundI_any A n pc di W hW hn
  rw [s1] at cS1
  rw [s2] at cS2
  have f1 := hts.fit.map
  have f2 := hds2.fit.map
  have cF1 := fun A n pc W hW => freeA_any A n pc ti W hW f1
  have cF2 := fun A n pc W hW => freeA_any A n pc di W hW f2
  rw [htf] at cF1
  rw [hdf] at cF2
  unfold ImgsO at cW cT cD
  clear hfc hfw hws hts hds2 htf hdf s1 s2 f1 f2 hat0 hat1 hds hwl hlc
  generalize (freeA a).length = m at *
  have hmm : decide ((m : Int) = (m : Int)) = true := decide_eq_true rfl
  go_enter Try.func6, Try.ntmps6
  go_wp2_with fail
  refine c1.mono ?_
  rintro e w1 ⟨rfl, hb1⟩
  have R1 := Lib.hid hb1
  clear hb1 c1
  go_wp2_with fail
  refine (cN _ (H.out.step R1.out)).mono ?_
  rintro e w2 ⟨g2, n2, c2, rfl, hO2, hn2, hb2⟩
  have R2 := Lib.hid (And.intro hO2.reads (bstep R1.out hb2))
  clear hb2 hO2 R1 cN
  go_wp2_with fail
  refine (cW _ _ _ _ R2.out.1).mono ?_
  rintro e w3 ⟨g3, n3, c3, rfl, hO3, hn3, hb3⟩
  have R3 := Lib.hid (And.intro hO3.reads (bstep R2.out.2 hb3))
  clear hb3 hO3 R2 cW
  go_wp2_with fail
  refine (cT _ _ _ _ R3.out.1).mono ?_
  rintro e w4 ⟨g4, n4, c4, rfl, hO4, hn4, hb4⟩
  have R4 := Lib.hid (And.intro hO4.reads (And.intro (R3.out.1.step hb4) (bstep R3.out.2 hb4)))
  clear hb4 hO4 R3 cT
  go_wp2_with fail
  refine (cD _ _ _ _ R4.out.2.1).mono ?_
  rintro e w5 ⟨g5, n5, c5, rfl, hO5, hn5, hb5⟩
  have R5 := Lib.hid (And.intro hO5.reads (And.intro (R4.out.1.step hb5) (bstep R4.out.2.2 hb5)))
  clear hb5 hO5 R4 cD
  go_wp2_with fail
  refine (cS1 _ _ _ _ R5.out.2.1 (by omega)).mono ?_
  rintro e w6 ⟨rfl, hb6⟩
  have R6 := Lib.hid (And.intro (R5.out.1.step hb6) (And.intro (R5.out.2.1.step hb6) (bstep R5.out.2.2 hb6)))
  clear hb6 R5 cS1
  go_wp2_with fail
  refine (cS2 _ _ _ _ R6.out.1 (by omega)).mono ?_
  rintro e w7 ⟨rfl, hb7⟩
  have R7 := Lib.hid (And.intro (R6.out.1.step hb7) (And.intro (R6.out.2.1.step hb7) (bstep R6.out.2.2 hb7)))
  clear hb7 R6 cS2
  go_wp2_with fail
  refine (cF2 _ _ _ _ R7.out.1).mono ?_
  rintro e w8 ⟨rfl, hb8⟩
  have R8 := Lib.hid (And.intro (R7.out.2.1.step hb8) (bstep R7.out.2.2 hb8))
  clear hb8 R7 cF2
  go_wp2_with fail
  refine (cFa _ (H.out.step R8.out.2)).mono ?_
  rintro e w9 ⟨rfl, hb9⟩
  have R9 := Lib.hid (And.intro (R8.out.1.step hb9) (bstep R8.out.2 hb9))
  clear hb9 R8
  go_wp2_with fail
  refine (cF1 _ _ _ _ R9.out.1).mono ?_
  rintro e wa ⟨rfl, hba⟩
  have Ra := Lib.hid (bstep R9.out.2 hba)
  clear hba R9 cF1
  go_wp2_with fail
  refine (cFa _ (H.out.step Ra.out)).mono ?_
  rintro e wb ⟨rfl, hbb⟩
  have Rb := Lib.hid (bstep Ra.out hbb)
  clear hbb Ra cFa
  rcases hcode with rfl | rfl | rfl | rfl
  all_goals
    go_wp2_with fail
    refine (awake5_any _).mono ?_
    rintro e wc ⟨rfl, hbc⟩
    have Rc := Lib.hid (bstep Rb.out hbc)
    clear Rb hbc
    go_wp2
    go_ret
    exact ⟨rfl, Rc.out⟩

end Go.Proofs.Ytcfmpmcdfllibaa
