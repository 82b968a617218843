/-
  The commit block of what is to be written: the program's method.
-/
import Derived.Test.YtlpijikhbjkmfaaG21
import Derived.Test.YtlpijikhbjkmfaaG03
namespace Go.Proofs.Ytlpijikhbjkmfaa
open Go.RowKit

/-- The commit block. -/
def sealB (sq : Nat) (pl : List Nat) (bl : List ByteArray) : ByteArray := padL ([65, 87, 76, 49] ++ beL sq 8 ++ beL pl.length 2 ++ beL (crc (placesL pl ++ flatL bl)) 4)
theorem keepW {W0 w' : World} {g : Nat} {v : WV} (k : W13 W0 g v) (hb : Below W0.heap.size W0 w') :
    w'.cell? ⟨g, 9, none⟩ = some (.int .u64 v.sq) ∧ w'.cell? ⟨g, 10, none⟩ = some (.slice v.P v.k v.kc) ∧ w'.cell? ⟨g, 11, none⟩ = some (.slice v.L v.j v.jc) ∧ Below W0.heap.size W0 w' :=
  ⟨(k.step hb).sq, (k.step hb).pl, (k.step hb).bl, hb⟩
theorem lastW {a b c p : Prop} (x : a ∧ b ∧ c ∧ p) : p := x.2.2.2
theorem mkB_app (a b : List UInt8) : mkB a ++ mkB b = mkB (a ++ b) := by
  apply ByteArray.ext
  rw [ByteArray.data_append]
  simp [mkB]
theorem mkB_size (a : List UInt8) : (mkB a).size = a.length := by simp [mkB, ByteArray.size]
theorem mkB_list (a : List UInt8) : (mkB a).data.toList = a := by simp [mkB]
theorem beL_small (n k : Nat) : (beL n k).length = k := beL_length n k

set_option maxRecDepth 100000 in
set_option maxHeartbeats 4000000 in
theorem sealed_wk (w : World) (g : Nat) (v : WV) (d : D) (img bl : List ByteArray) (pl : List Nat) (h : Wk w g v d img pl bl) (hk : v.k ≤ 512) (hj : v.j ≤ 512) (hpl : ∀ k, k < v.k → pl.getD k 0 < 65536) (hbl : ∀ b ∈ bl, b.size = 128) (hsq : v.sq < 18446744073709551616) :
    Calls Try.prog 59 #[.pointer (some ⟨g, 0, none⟩)] w fun e w' => e = .returned (.string (sealB v.sq pl bl)) ∧ Below w.heap.size w w' := by
  have hmx : Try.prog.follows .mixedOrders = true := by kernel_rfl
  have H := Lib.hid h
  have lk := h.pl.lenN
  have lj := h.bl.lenS
  have cl := fun W hW => listed_any v.P v.k v.kc pl W hW hk hpl
  have lf : (flatL bl).length ≤ 65536 := by rw [flatL_length bl hbl]; omega
  have cj := fun W hW => join_any v.L v.j v.jc bl W hW h.hj.1 h.hj.2 (by omega)
  have lp : (placesL pl).length ≤ 1024 := by rw [placesL_length]; omega
  have hsum : ¬ 9223372036854775807 < (mkB (placesL pl)).size + (mkB (flatL bl)).size := by rw [mkB_size, mkB_size]; omega
  have cc := fun W => (crc_any (mkB (placesL pl) ++ mkB (flatL bl)) W (by rw [mkB_app, mkB_size, List.length_append]; unfold maxLen; omega)).mono (R' := fun e w' => e = .returned (.int .u32 (crc (mkB (placesL pl) ++ mkB (flatL bl)).data.toList : Nat)) ∧ Below W.heap.size W w') fun e w' hh => ⟨hh.1, hh.2 ▸ Below.refl _ _⟩
  have HC := Lib.hid (show crc (mkB (placesL pl) ++ mkB (flatL bl)).data.toList = crc (placesL pl ++ flatL bl) by rw [mkB_app, mkB_list])
  obtain ⟨x, hx⟩ : ∃ x, x = crc (mkB (placesL pl) ++ mkB (flatL bl)).data.toList := ⟨_, rfl⟩
  have hx32 : x < 4294967296 := by rw [hx]; unfold crc; omega
  rw [← hx] at cc
  have HE : Hid (sealB v.sq pl bl = padL (mkB ([65, 87, 76, 49] ++ beL v.sq 8 ++ beL v.k 2 ++ beL x 4)).data.toList) := Lib.hid (by rw [mkB_list, hx, HC.out]; unfold sealB; rw [lk])
  rw [HE.out]
  clear hx HC
  have c8 : ∀ W : World, Calls Try.prog 79 #[.int .u64 (v.sq : Int), .int .i64 8] W fun e w' => e = .returned (.string (mkB (beL v.sq 8))) ∧ Below W.heap.size W w' := fun W => digits_any v.sq 8 W hsq (by omega) (by omega)
  have c2 : ∀ W : World, Calls Try.prog 79 #[.int .u64 (v.k : Int), .int .i64 2] W fun e w' => e = .returned (.string (mkB (beL v.k 2))) ∧ Below W.heap.size W w' := fun W => digits_any v.k 2 W (by omega) (by omega) (by omega)
  have c4 : ∀ W : World, Calls Try.prog 79 #[.int .u64 (x : Int), .int .i64 4] W fun e w' => e = .returned (.string (mkB (beL x 4))) ∧ Below W.heap.size W w' := fun W => digits_any x 4 W (by omega) (by omega) (by omega)
  have cp := fun W => padded_any (mkB ([65, 87, 76, 49] ++ beL v.sq 8 ++ beL v.k 2 ++ beL x 4)) W (by rw [mkB_size]; simp [beL_length])
  have m0 : (⟨#[65, 87, 76, 49]⟩ : ByteArray) = mkB [65, 87, 76, 49] := rfl
  have A1 := mkB_app [65, 87, 76, 49] (beL v.sq 8)
  have A2 := mkB_app ([65, 87, 76, 49] ++ beL v.sq 8) (beL v.k 2)
  have A3 := mkB_app ([65, 87, 76, 49] ++ beL v.sq 8 ++ beL v.k 2) (beL x 4)
  have n1 : ¬ 9223372036854775807 < (mkB [65, 87, 76, 49]).size + (mkB (beL v.sq 8)).size := by rw [mkB_size, mkB_size, beL_length]; decide
  have n2 : ¬ 9223372036854775807 < (mkB ([65, 87, 76, 49] ++ beL v.sq 8)).size + (mkB (beL v.k 2)).size := by rw [mkB_size, mkB_size, List.length_append, beL_length, beL_length]; decide
  have n3 : ¬ 9223372036854775807 < (mkB ([65, 87, 76, 49] ++ beL v.sq 8 ++ beL v.k 2)).size + (mkB (beL x 4)).size := by rw [mkB_size, mkB_size, List.length_append, List.length_append, beL_length, beL_length, beL_length]; decide
  generalize mkB ([65, 87, 76, 49] ++ beL v.sq 8 ++ beL v.k 2 ++ beL x 4) = s3 at A3 cp ⊢
  generalize mkB ([65, 87, 76, 49] ++ beL v.sq 8 ++ beL v.k 2) = s2 at A2 A3 n3
  generalize mkB ([65, 87, 76, 49] ++ beL v.sq 8) = s1 at A1 A2 n2
  rw [← m0] at A1 n1
  have n0 : ¬ 9223372036854775807 < 4 + (mkB (beL v.sq 8)).size := n1
  generalize mkB (beL v.sq 8) = b8 at c8 A1 n1 n0
  generalize mkB (beL v.k 2) = b2 at c2 A2 n2
  generalize mkB (beL x 4) = b4 at c4 A3 n3
  generalize mkB (placesL pl) = sp at cl hsum cc
  generalize mkB (flatL bl) = sf at cj hsum cc
  generalize hs3 : padL s3.data.toList = s4 at cp ⊢
  clear m0
  have hwk : IntKind.u64.wrap (v.k : Int) = (v.k : Int) := IntWalk.u64_in _ (by omega)
  have hwx : IntKind.u64.wrap (x : Int) = (x : Int) := IntWalk.u64_in _ (by omega)
  have hk18 : (v.k : Int) ≤ 18446744073709551615 := by omega
  have hx18 : (x : Int) ≤ 18446744073709551615 := by omega
  clear h lf lp HE hs3 hbl hpl
  go_enter Try.func59, Try.ntmps59
  go_wp2_with fail
  go_region_held3 (fun w' => w'.cell? ⟨g, 9, none⟩ = some (.int .u64 v.sq) ∧ w'.cell? ⟨g, 10, none⟩ = some (.slice v.P v.k v.kc) ∧ w'.cell? ⟨g, 11, none⟩ = some (.slice v.L v.j v.jc) ∧ Below w.heap.size w w')
    (first | exact keepW H.out.blk (Below.refl _ _) | exact keepW H.out.blk ((Below.refl _ _).drew) | exact keepW H.out.blk (bstep (lastW (by assumption)) hbx))
    (first
      | (go_at_call 75; refine (cl _ (H.out.pl.step (lastW (by assumption)))).mono ?_; rintro e w4 ⟨rfl, hbx⟩)
      | (go_at_call 69; refine (cj _ (H.out.bl.step (lastW (by assumption)))).mono ?_; rintro e w4 ⟨rfl, hbx⟩)
      | (go_at_call 78; refine (cc _).mono ?_; rintro e w4 ⟨rfl, hbx⟩))
  have HB := Lib.hid (lastW (show _ ∧ _ ∧ _ ∧ Below w.heap.size w w4 by assumption))
  have H4 := Lib.hid (H.out.step HB.out)
  go_wp2_with fail
  go_region_held3 (fun w' => w'.cell? ⟨g, 9, none⟩ = some (.int .u64 v.sq) ∧ w'.cell? ⟨g, 10, none⟩ = some (.slice v.P v.k v.kc) ∧ w'.cell? ⟨g, 11, none⟩ = some (.slice v.L v.j v.jc) ∧ Below w4.heap.size w4 w')
    (first | exact keepW H4.out.blk (Below.refl _ _) | exact keepW H4.out.blk ((Below.refl _ _).drew) | exact keepW H4.out.blk (bstep (lastW (show _ ∧ _ ∧ _ ∧ Below w4.heap.size w4 _ by assumption)) hby))
    (first
      | (go_at_call 79; (with_reducible refine (c8 _).mono ?_); rintro e w5 ⟨rfl, hby⟩)
      | (go_at_call 79; (with_reducible refine (c2 _).mono ?_); rintro e w5 ⟨rfl, hby⟩)
      | (go_at_call 79; (with_reducible refine (c4 _).mono ?_); rintro e w5 ⟨rfl, hby⟩)
      | (go_at_call 54; refine (cp _).mono ?_; rintro e w5 ⟨rfl, hby⟩))
  go_wp2
  go_ret
  exact ⟨rfl, bstep HB.out (lastW (show _ ∧ _ ∧ _ ∧ Below w4.heap.size w4 _ by assumption))⟩

end Go.Proofs.Ytlpijikhbjkmfaa

/-
  The five kinds of writing of the program: the list, the log, the commit block, home, and the commit block clear.
-/
namespace Go.Proofs.Ytlpijikhbjkmfaa
open Go.RowKit

/-- What a step of writing answers and leaves. -/
def Puts (g : Nat) (v : WV) (d : D) (img bl : List ByteArray) (pl : List Nat) (w : World) (S : List Step) (e : Ending) (w' : World) : Prop :=
  e = .returned (.int .i64 (runD (d, 0) S).2) ∧ ∃ v', Ndev v v' ∧ Wk w' g v' (runD (d, 0) S).1 img pl bl ∧ w.grownBy w' (some g)
theorem Puts.from {g : Nat} {v : WV} {d : D} {img bl : List ByteArray} {pl : List Nat} {w w1 w' : World} {S : List Step} {e : Ending} (h : Puts g v d img bl pl w1 S e w') (hb : w.grownBy w1 (some g)) : Puts g v d img bl pl w S e w' :=
  ⟨h.1, let ⟨v', a, b, c⟩ := h.2; ⟨v', a, b, grown_trans hb c⟩⟩
theorem pieceB_size (l : List Nat) (k : Nat) : (pieceB l k).size = 128 := by
  unfold pieceB padL
  rw [mkB_size, List.length_append, List.length_replicate]
  have : (placesL ((l.drop (64 * k)).take 64)).length ≤ 128 := by rw [placesL_length, List.length_take]; omega
  omega

set_option maxRecDepth 100000 in
set_option maxHeartbeats 800000 in
theorem writeList_wk (w : World) (g : Nat) (v : WV) (d : D) (img bl : List ByteArray) (pl : List Nat) (h : Wk w g v d img pl bl) (hl : d.left ≤ 9223372036854775807) (hk : 0 < v.k ∧ v.k ≤ 512) (hp : v.p0 = 1) (hpl : ∀ k, k < v.k → pl.getD k 0 < 65536) :
    Calls Try.prog 25 #[.pointer (some ⟨g, 0, none⟩)] w fun e w' => Puts g v d img bl pl w (rowSteps 1 (listB pl)) e w' := by
  have hmx : Try.prog.follows .mixedOrders = true := by kernel_rfl
  have H := Lib.hid h
  obtain ⟨q0, q1, q2, q3⟩ := h.blk.p
  have q10 := h.blk.pl
  have q11 := h.blk.bl
  have hk0 := hk.1
  obtain ⟨b, o, hP, hbl, _⟩ := h.pl.2 hk0
  rw [hP] at q10
  rw [hp] at q0
  have HR := Lib.hid (show Reads w w.heap.size 1 (some ⟨b, o, none⟩) v.k (encN pl) by rw [← hP]; exact h.pl)
  have HKC := Lib.hid h.hk
  have HPL := Lib.hid hpl
  have lk := h.pl.lenN
  have hll : (listB pl).length ≤ 8 := by unfold listB; rw [List.length_map, List.length_range]; omega
  clear h hpl hP hbl hp q1 q2 q3 q11
  go_enter Try.func25, Try.ntmps25
  go_wp2_with fail
  refine wp_region_till (fun w' => w'.cell? ⟨g, 0, none⟩ = some (.int .i64 1) ∧ w'.cell? ⟨g, 10, none⟩ = some (.slice (some ⟨b, o, none⟩) v.k v.kc)) 12 14 hmx (by kernel_rfl) ?_
  have HS : (w.drew).cell? ⟨g, 0, none⟩ = some (.int .i64 1) ∧ (w.drew).cell? ⟨g, 10, none⟩ = some (.slice (some ⟨b, o, none⟩) v.k v.kc) := ⟨q0, q10⟩
  clear q0 q10
  refine till_take (i := 0) _ (.pointer (some ⟨g, 0, none⟩)) [0] rfl (by kernel_rfl) (by kernel_rfl) (by kernel_rfl) (by kernel_rfl) (fun _ _ _ h => h) (.inl ⟨by rfl, fun w' hS => ?_⟩) HS ?_
  · obtain ⟨x0, x1⟩ := hS; go_simp
  try simp only [Act.put, List.setIfInBounds_toArray]
  refine till_take (i := 1) _ (.pointer (some ⟨g, 0, none⟩)) [11, 5, 4, 3, 2, 1] rfl (by kernel_rfl) (by kernel_rfl) (by kernel_rfl) (by kernel_rfl) (fun _ _ _ h => h) (.inl ⟨by rfl, fun w' hS => ?_⟩) HS ?_
  · obtain ⟨x0, x1⟩ := hS; go_simp
  try simp only [Act.put]
  refine till_take (i := 2) _ (.pointer (some ⟨g, 0, none⟩)) [11, 5, 4, 3, 2] rfl (by kernel_rfl) (by kernel_rfl) (by kernel_rfl) (by kernel_rfl) (fun _ _ _ h => h) (.inl ⟨by rfl, fun w' hS => ?_⟩) HS ?_
  · obtain ⟨x0, x1⟩ := hS; go_simp
  try simp only [Act.put]
  refine till_take (i := 3) _ (.pointer (some ⟨g, 0, none⟩)) [11, 5, 4, 3] rfl (by kernel_rfl) (by kernel_rfl) (by kernel_rfl) (by kernel_rfl) (fun _ _ _ h => h) (.inl ⟨by rfl, fun w' hS => ?_⟩) HS ?_
  · obtain ⟨x0, x1⟩ := hS; go_simp
  try simp only [Act.put]
  refine till_take (i := 4) _ (.pointer (some ⟨g, 0, none⟩)) [11, 5, 4] rfl (by kernel_rfl) (by kernel_rfl) (by kernel_rfl) (by kernel_rfl) (fun _ _ _ h => h) (.inl ⟨by rfl, fun w' hS => ?_⟩) HS ?_
  · obtain ⟨x0, x1⟩ := hS; go_simp
  try simp only [Act.put]
  refine till_take (i := 5) _ (.int .i64 1) [11, 5] rfl (by kernel_rfl) (by kernel_rfl) (by kernel_rfl) (by kernel_rfl) (fun _ _ _ h => h) (.inl ⟨by rfl, fun w' hS => ?_⟩) HS ?_
  · obtain ⟨x0, x1⟩ := hS; go_simp
  try simp only [Act.put]
  refine till_take (i := 6) _ (.pointer (some ⟨g, 0, none⟩)) [11, 10, 9, 8, 7, 6] rfl (by kernel_rfl) (by kernel_rfl) (by kernel_rfl) (by kernel_rfl) (fun _ _ _ h => h) (.inl ⟨by rfl, fun w' hS => ?_⟩) HS ?_
  · obtain ⟨x0, x1⟩ := hS; go_simp
  try simp only [Act.put]
  refine till_take (i := 7) _ (.pointer (some ⟨g, 0, none⟩)) [11, 10, 9, 8, 7] rfl (by kernel_rfl) (by kernel_rfl) (by kernel_rfl) (by kernel_rfl) (fun _ _ _ h => h) (.inl ⟨by rfl, fun w' hS => ?_⟩) HS ?_
  · obtain ⟨x0, x1⟩ := hS; go_simp
  try simp only [Act.put]
  refine till_take (i := 8) _ (.pointer (some ⟨g, 10, none⟩)) [11, 10, 9, 8] rfl (by kernel_rfl) (by kernel_rfl) (by kernel_rfl) (by kernel_rfl) (fun _ _ _ h => h) (.inl ⟨by rfl, fun w' hS => ?_⟩) HS ?_
  · obtain ⟨x0, x1⟩ := hS; go_simp
  try simp only [Act.put]
  refine till_take (i := 9) _ (.slice (some ⟨b, o, none⟩) v.k v.kc) [11, 10, 9] rfl (by kernel_rfl) (by kernel_rfl) (by kernel_rfl) (by kernel_rfl) (fun _ _ _ h => h) (.inl ⟨by rfl, fun w' hS => ?_⟩) HS ?_
  · obtain ⟨x0, x1⟩ := hS; go_simp
  try simp only [Act.put]
  refine till_one (i := 10) _ (by kernel_rfl) rfl rfl (fun K hK => ?_)
  go_simp
  go_at_call 57
  refine (list_any b o v.k v.kc pl w.drew HR.out hk0 HKC.out.1 hk.2 HKC.out.2 HPL.out).mono ?_
  rintro e w3 ⟨A3, c3, rfl, ho3, hb3⟩
  have hb0 : Below w.heap.size w w3 := ((Below.refl w.heap.size w).drew).trans hb3
  have H3 := Lib.hid (H.out.step hb0)
  have HO := Lib.hid (And.intro ho3 hb0)
  clear hb0
  clear ho3 hb3 HR
  have H0 : Hid (w3.cell? ⟨g, 0, none⟩ = some (.int .i64 1) ∧ w3.cell? ⟨g, 10, none⟩ = some (.slice (some ⟨b, o, none⟩) v.k v.kc)) := Lib.hid ⟨((H3.out.blk.get 0).trans ((H.out.blk.get 0).symm.trans HS.1)), ((H3.out.blk.get 10).trans ((H.out.blk.get 10).symm.trans HS.2))⟩
  refine hK.out _ _ (fun _ _ => ⟨((H3.out.blk.get 0).trans ((H.out.blk.get 0).symm.trans HS.1)), ((H3.out.blk.get 10).trans ((H.out.blk.get 10).symm.trans HS.2))⟩) ?_
  clear HS
  try simp only [Act.put, List.setIfInBounds_toArray, List.set_cons_zero, List.set_cons_succ]
  clear hK K
  refine till_one (i := 11) _ (by kernel_rfl) rfl rfl (fun K hK => ?_)
  go_simp
  go_at_call 56
  refine (inRow_any 1 A3 (listB pl).length c3 w3).mono ?_
  rintro e w4 ⟨rfl, rfl⟩
  refine hK.out _ _ (fun _ _ => ?_) ?_
  · have h4 := (H3.out.step ((alloc_below0 w3 (.cells #[.int .i64 1] 3)).trans ((alloc_below0 _ (.cells #[.slice A3 (listB pl).length c3] 22)).mono (by simp)))).blk
    exact ⟨(h4.get 0).trans ((H3.out.blk.get 0).symm.trans H0.out.1), (h4.get 10).trans ((H3.out.blk.get 10).symm.trans H0.out.2)⟩
  try simp only [Act.put, List.setIfInBounds_toArray, List.set_cons_zero, List.set_cons_succ]
  clear hK K
  refine till_one (i := 12) _ (by kernel_rfl) rfl rfl (fun K hK => ?_)
  go_simp
  go_at_call 55
  refine (row_write w3 g v d img bl pl H3.out hl 1 (by omega) 1 rfl A3 (listB pl).length c3 (listB pl) (by omega) (Reads.of_own HO.out.1)).mono ?_
  rintro e w5 ⟨rfl, hput⟩
  have HP := Lib.hid hput
  clear hput
  refine hK.out _ _ (fun h => absurd rfl h) ?_
  try simp only [Act.put, List.setIfInBounds_toArray, List.set_cons_zero, List.set_cons_succ]
  clear hK K
  refine till_one (i := 13) _ (by kernel_rfl) rfl rfl (fun K hK => ?_)
  go_simp
  refine hK.out _ _ (fun _ h => by cases h) ?_
  try simp only [Act.put, List.setIfInBounds_toArray, List.set_cons_zero, List.set_cons_succ]
  clear hK K
  refine till_done (by kernel_rfl) ?_
  go_wp2
  go_ret
  exact Puts.from (w1 := w3) ⟨rfl, HP.out⟩ (grown_of_below HO.out.2 _)

set_option maxRecDepth 100000 in
set_option maxHeartbeats 800000 in
theorem writeLog_wk (w : World) (g : Nat) (v : WV) (d : D) (img bl : List ByteArray) (pl : List Nat) (h : Wk w g v d img pl bl) (hl : d.left ≤ 9223372036854775807) (hj : v.j ≤ 4096) (a : Nat) (ha : a ≤ 4096) (hp : v.p1 = a) :
    Calls Try.prog 26 #[.pointer (some ⟨g, 0, none⟩)] w fun e w' => Puts g v d img bl pl w (rowSteps a bl) e w' := by
  have hmx : Try.prog.follows .mixedOrders = true := by kernel_rfl
  have H := Lib.hid h
  obtain ⟨q0, q1, q2, q3⟩ := h.blk.p
  have q10 := h.blk.pl
  have q11 := h.blk.bl
  rw [hp] at q1
  have hjl := h.bl.lenS
  clear h q0 q2 q3 q10
  go_enter Try.func26, Try.ntmps26
  go_wp2_with fail
  refine wp_region_till (fun w' => w'.cell? ⟨g, 1, none⟩ = some (.int .i64 (a : Int)) ∧ w'.cell? ⟨g, 11, none⟩ = some (.slice v.L v.j v.jc)) 11 13 hmx (by kernel_rfl) ?_
  have HS : (w.drew).cell? ⟨g, 1, none⟩ = some (.int .i64 (a : Int)) ∧ (w.drew).cell? ⟨g, 11, none⟩ = some (.slice v.L v.j v.jc) := ⟨q1, q11⟩
  clear q1 q11 hp
  refine till_take (i := 0) _ (.pointer (some ⟨g, 0, none⟩)) [0] rfl (by kernel_rfl) (by kernel_rfl) (by kernel_rfl) (by kernel_rfl) (fun _ _ _ h => h) (.inl ⟨by rfl, fun w' hS => ?_⟩) HS ?_
  · obtain ⟨x0, x1⟩ := hS; go_simp
  try simp only [Act.put, List.setIfInBounds_toArray]
  refine till_take (i := 1) _ (.pointer (some ⟨g, 0, none⟩)) [10, 5, 4, 3, 2, 1] rfl (by kernel_rfl) (by kernel_rfl) (by kernel_rfl) (by kernel_rfl) (fun _ _ _ h => h) (.inl ⟨by rfl, fun w' hS => ?_⟩) HS ?_
  · obtain ⟨x0, x1⟩ := hS; go_simp
  try simp only [Act.put]
  refine till_take (i := 2) _ (.pointer (some ⟨g, 0, none⟩)) [10, 5, 4, 3, 2] rfl (by kernel_rfl) (by kernel_rfl) (by kernel_rfl) (by kernel_rfl) (fun _ _ _ h => h) (.inl ⟨by rfl, fun w' hS => ?_⟩) HS ?_
  · obtain ⟨x0, x1⟩ := hS; go_simp
  try simp only [Act.put]
  refine till_take (i := 3) _ (.pointer (some ⟨g, 0, none⟩)) [10, 5, 4, 3] rfl (by kernel_rfl) (by kernel_rfl) (by kernel_rfl) (by kernel_rfl) (fun _ _ _ h => h) (.inl ⟨by rfl, fun w' hS => ?_⟩) HS ?_
  · obtain ⟨x0, x1⟩ := hS; go_simp
  try simp only [Act.put]
  refine till_take (i := 4) _ (.pointer (some ⟨g, 1, none⟩)) [10, 5, 4] rfl (by kernel_rfl) (by kernel_rfl) (by kernel_rfl) (by kernel_rfl) (fun _ _ _ h => h) (.inl ⟨by rfl, fun w' hS => ?_⟩) HS ?_
  · obtain ⟨x0, x1⟩ := hS; go_simp
  try simp only [Act.put]
  refine till_take (i := 5) _ (.int .i64 (a : Int)) [10, 5] rfl (by kernel_rfl) (by kernel_rfl) (by kernel_rfl) (by kernel_rfl) (fun _ _ _ h => h) (.inl ⟨by rfl, fun w' hS => ?_⟩) HS ?_
  · obtain ⟨x0, x1⟩ := hS; go_simp
  try simp only [Act.put]
  refine till_take (i := 6) _ (.pointer (some ⟨g, 0, none⟩)) [10, 9, 8, 7, 6] rfl (by kernel_rfl) (by kernel_rfl) (by kernel_rfl) (by kernel_rfl) (fun _ _ _ h => h) (.inl ⟨by rfl, fun w' hS => ?_⟩) HS ?_
  · obtain ⟨x0, x1⟩ := hS; go_simp
  try simp only [Act.put]
  refine till_take (i := 7) _ (.pointer (some ⟨g, 0, none⟩)) [10, 9, 8, 7] rfl (by kernel_rfl) (by kernel_rfl) (by kernel_rfl) (by kernel_rfl) (fun _ _ _ h => h) (.inl ⟨by rfl, fun w' hS => ?_⟩) HS ?_
  · obtain ⟨x0, x1⟩ := hS; go_simp
  try simp only [Act.put]
  refine till_take (i := 8) _ (.pointer (some ⟨g, 11, none⟩)) [10, 9, 8] rfl (by kernel_rfl) (by kernel_rfl) (by kernel_rfl) (by kernel_rfl) (fun _ _ _ h => h) (.inl ⟨by rfl, fun w' hS => ?_⟩) HS ?_
  · obtain ⟨x0, x1⟩ := hS; go_simp
  try simp only [Act.put]
  refine till_take (i := 9) _ (.slice v.L v.j v.jc) [10, 9] rfl (by kernel_rfl) (by kernel_rfl) (by kernel_rfl) (by kernel_rfl) (fun _ _ _ h => h) (.inl ⟨by rfl, fun w' hS => ?_⟩) HS ?_
  · obtain ⟨x0, x1⟩ := hS; go_simp
  try simp only [Act.put]
  refine till_one (i := 10) _ (by kernel_rfl) rfl rfl (fun K hK => ?_)
  go_simp
  go_at_call 56
  refine (inRow_any a v.L v.j v.jc _).mono ?_
  rintro e w4 ⟨rfl, rfl⟩
  refine hK.out _ _ (fun _ _ => ?_) ?_
  · have h4 := (H.out.step ((alloc_below0 w (.cells #[.int .i64 (a : Int)] 3)).trans ((alloc_below0 _ (.cells #[.slice v.L v.j v.jc] 22)).mono (by simp)))).blk
    exact ⟨(h4.get 1).trans ((H.out.blk.get 1).symm.trans HS.1), (h4.get 11).trans ((H.out.blk.get 11).symm.trans HS.2)⟩
  clear HS
  try simp only [Act.put, List.setIfInBounds_toArray, List.set_cons_zero, List.set_cons_succ]
  clear hK K
  refine till_one (i := 11) _ (by kernel_rfl) rfl rfl (fun K hK => ?_)
  go_simp
  go_at_call 55
  refine (row_write w.drew g v d img bl pl (H.out.drewN 1) hl a ha (a : Int) rfl v.L v.j v.jc bl hj H.out.bl).mono ?_
  rintro e w5 ⟨rfl, hput⟩
  have HP := Lib.hid hput
  clear hput
  refine hK.out _ _ (fun h => absurd rfl h) ?_
  try simp only [Act.put, List.setIfInBounds_toArray, List.set_cons_zero, List.set_cons_succ]
  clear hK K
  refine till_one (i := 12) _ (by kernel_rfl) rfl rfl (fun K hK => ?_)
  go_simp
  refine hK.out _ _ (fun _ h => by cases h) ?_
  try simp only [Act.put, List.setIfInBounds_toArray, List.set_cons_zero, List.set_cons_succ]
  clear hK K
  refine till_done (by kernel_rfl) ?_
  go_wp2
  go_ret
  exact Puts.from (w1 := w.drew) ⟨rfl, HP.out⟩ (grown_drewN w 1 _)

set_option maxRecDepth 100000 in
set_option maxHeartbeats 800000 in
theorem writeCommit_wk (w : World) (g : Nat) (v : WV) (d : D) (img bl : List ByteArray) (pl : List Nat) (h : Wk w g v d img pl bl) (hl : d.left ≤ 9223372036854775807) (hk : v.k ≤ 512) (hj : v.j ≤ 512) (hpl : ∀ k, k < v.k → pl.getD k 0 < 65536) (hbl : ∀ b ∈ bl, b.size = 128) (hsq : v.sq < 18446744073709551616) :
    Calls Try.prog 28 #[.pointer (some ⟨g, 0, none⟩)] w fun e w' => Puts g v d img bl pl w (rowSteps 0 [sealB v.sq pl bl]) e w' := by
  have hmx : Try.prog.follows .mixedOrders = true := by kernel_rfl
  have H := Lib.hid h
  obtain ⟨q0, q1, q2, q3⟩ := h.blk.p
  have q10 := h.blk.pl
  have q11 := h.blk.bl
  have cs := sealed_wk w g v d img bl pl h hk hj hpl hbl hsq
  generalize hs : sealB v.sq pl bl = s at cs ⊢
  clear h hs q0 q1 q2 q3 q10 q11 hpl hbl
  go_enter Try.func28, Try.ntmps28
  go_wp2_with fail
  refine cs.mono ?_
  rintro e w1 ⟨rfl, hb1⟩
  have H1 := Lib.hid (And.intro (H.out.step (hb1.trans ((alloc_below0 w1 (.cells #[.string s] 9)).mono hb1.size))) (hb1.trans ((alloc_below0 w1 (.cells #[.string s] 9)).mono hb1.size)))
  have HR := Lib.hid (reads_new w1 #[.string s] 9 1 1 rfl)
  clear hb1 cs
  go_wp2_with fail
  refine (inRow_any 0 (some ⟨w1.heap.size, 0, none⟩) 1 1 _).mono ?_
  rintro e w4 ⟨rfl, rfl⟩
  go_wp2_with fail
  have hrw := row_write (w1.alloc (.cells #[.string s] 9)) g v d img bl pl H1.out.1 hl 0 (by omega) 0 rfl (some ⟨w1.heap.size, 0, none⟩) 1 1 [s] (by omega) HR.out
  simp only [World.size_alloc] at hrw
  refine hrw.mono ?_
  rintro e w5 ⟨rfl, hput⟩
  have HP := Lib.hid hput
  clear hput
  go_wp2
  go_ret
  exact Puts.from (w1 := w1.alloc (.cells #[.string s] 9)) ⟨rfl, HP.out⟩ (grown_of_below H1.out.2 _)

set_option maxRecDepth 100000 in
set_option maxHeartbeats 800000 in
theorem writeClear_wk (w : World) (g : Nat) (v : WV) (d : D) (img bl : List ByteArray) (pl : List Nat) (h : Wk w g v d img pl bl) (hl : d.left ≤ 9223372036854775807)  :
    Calls Try.prog 31 #[.pointer (some ⟨g, 0, none⟩)] w fun e w' => Puts g v d img bl pl w (rowSteps 0 [zeroB]) e w' := by
  have hmx : Try.prog.follows .mixedOrders = true := by kernel_rfl
  have H := Lib.hid h
  obtain ⟨q0, q1, q2, q3⟩ := h.blk.p
  have q10 := h.blk.pl
  have q11 := h.blk.bl
  have cs := padded_any ⟨#[]⟩ w (by decide)
  rw [show padL (⟨#[]⟩ : ByteArray).data.toList = zeroB from pad_none] at cs
  generalize hs : zeroB = s at cs ⊢
  clear h hs q0 q1 q2 q3 q10 q11
  go_enter Try.func31, Try.ntmps31
  go_wp2_with fail
  refine cs.mono ?_
  rintro e w1 ⟨rfl, hb1⟩
  have H1 := Lib.hid (And.intro (H.out.step (hb1.trans ((alloc_below0 w1 (.cells #[.string s] 9)).mono hb1.size))) (hb1.trans ((alloc_below0 w1 (.cells #[.string s] 9)).mono hb1.size)))
  have HR := Lib.hid (reads_new w1 #[.string s] 9 1 1 rfl)
  clear hb1 cs
  go_wp2_with fail
  refine (inRow_any 0 (some ⟨w1.heap.size, 0, none⟩) 1 1 _).mono ?_
  rintro e w4 ⟨rfl, rfl⟩
  go_wp2_with fail
  have hrw := row_write (w1.alloc (.cells #[.string s] 9)) g v d img bl pl H1.out.1 hl 0 (by omega) 0 rfl (some ⟨w1.heap.size, 0, none⟩) 1 1 [s] (by omega) HR.out
  simp only [World.size_alloc] at hrw
  refine hrw.mono ?_
  rintro e w5 ⟨rfl, hput⟩
  have HP := Lib.hid hput
  clear hput
  go_wp2
  go_ret
  exact Puts.from (w1 := w1.alloc (.cells #[.string s] 9)) ⟨rfl, HP.out⟩ (grown_of_below H1.out.2 _)

set_option maxRecDepth 100000 in
set_option maxHeartbeats 800000 in
theorem writeHome_wk (w : World) (g : Nat) (v : WV) (d : D) (img bl : List ByteArray) (pl : List Nat) (h : Wk w g v d img pl bl) (hl : d.left ≤ 9223372036854775807) (a : Nat) (ha : a ≤ 4096) (hp : v.p2 = a) (hj : v.j = v.k) (hk : v.k ≤ 4096) (hpl : ∀ k, k < v.k → pl.getD k 0 < 65536) :
    Calls Try.prog 30 #[.pointer (some ⟨g, 0, none⟩)] w fun e w' => Puts g v d img bl pl w (homeSteps a pl bl) e w' := by
  have hmx : Try.prog.follows .mixedOrders = true := by kernel_rfl
  have H := Lib.hid h
  obtain ⟨q0, q1, q2, q3⟩ := h.blk.p
  have q10 := h.blk.pl
  have q11 := h.blk.bl
  clear h q0 q1 q2 q3 q10 q11
  go_enter Try.func30, Try.ntmps30
  go_wp2_with fail
  refine (homed_any g w).mono ?_
  rintro e w4 ⟨rfl, rfl⟩
  go_wp2_with fail
  refine (home_write w g v d img bl pl H.out hl a ha hp hj hk hpl).mono ?_
  rintro e w5 ⟨rfl, hput⟩
  have HP := Lib.hid hput
  clear hput
  go_wp2
  go_ret
  exact ⟨rfl, HP.out⟩

end Go.Proofs.Ytlpijikhbjkmfaa
