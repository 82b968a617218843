/-
  The program's iterator over a component's lines, which runs loops over itself.
-/
import Derived.Test.YtlfhhnjdfpgadaaGreatDoorG27
namespace Go.Proofs.YtlfhhnjdfpgadaaGreatDoor
open Go.RowKit Go.Shelf
attribute [local go_sem] Oper.semAt_some

/-- The iterator's own variables, and what it reads. -/
structure ItB (wz W : World) (Y l Bd Bc : Nat) (d : Nat) (nm : ByteArray) (A : Option Addr) (n c : Nat) (K : Option Addr) (k kc : Nat) : Prop where
  yb : W.heap[Y]? = some (.cells #[.func (.yield l) #[] #[]] 68 (0, 0))
  db : W.heap[Bd]? = some (.cells #[.int .i64 (d : Int)] 3 (0, 0))
  cb : C3 W Bc nm A n c K k kc
  bel : Below wz.heap.size wz W
section
variable {wz W W' : World} {Y l Bd Bc d n c k kc : Nat} {nm : ByteArray} {A K : Option Addr}
theorem ItB.keep (h : ItB wz W Y l Bd Bc d nm A n c K k kc) (hk : KpC wz.heap.size W W') : ItB wz W' Y l Bd Bc d nm A n c K k kc :=
  ⟨(hk.own _ _ _ _ h.yb (.inl rfl)).trans h.yb, (hk.own _ _ _ _ h.db (.inr (.inl rfl))).trans h.db, (hk.own _ _ _ _ h.cb (.inr (.inr (.inl rfl)))).trans h.cb, h.bel.trans hk.below⟩
theorem ItB.step (h : ItB wz W Y l Bd Bc d nm A n c K k kc) (hb : Below W.heap.size W W') : ItB wz W' Y l Bd Bc d nm A n c K k kc :=
  ⟨(hb.block _ (Array.getElem?_eq_some_iff.1 h.yb).1).trans h.yb, (hb.block _ (Array.getElem?_eq_some_iff.1 h.db).1).trans h.db, h.cb.step hb, bstep h.bel hb⟩
theorem ItB.cells (h : ItB wz W Y l Bd Bc d nm A n c K k kc) : W.cell? ⟨Y, 0, none⟩ = some (.func (.yield l) #[] #[]) ∧ W.cell? ⟨Bd, 0, none⟩ = some (.int .i64 (d : Int)) := by
  have h1 := h.yb
  have h2 := h.db
  exact ⟨by simp [World.cell?, h1], by simp [World.cell?, h2]⟩
theorem itB_own : OwnFrom wz.heap.size (fun (_ : List Ln) W => ItB wz W Y l Bd Bc d nm A n c K k kc) := fun s X Y' row hs hg hr => by
  have key : ∀ (b : Nat) (o : Obj), X.heap[b]? = some o → o.isCells = true → Y'.heap[b]? = X.heap[b]? := fun b o ho hc => hg.block b (Array.getElem?_eq_some_iff.1 ho).1 (fun e => by
    obtain ⟨_, o', ho', hc'⟩ := hr b e.symm
    rw [ho] at ho'
    injection ho' with ho'
    subst ho'
    rw [hc] at hc'
    cases hc')
  exact ⟨(key _ _ hs.yb rfl).trans hs.yb, (key _ _ hs.db rfl).trans hs.db, (key _ _ hs.cb rfl).trans hs.cb, hs.bel.grown hg hs.bel.size (fun b e => by have := (hr b e).1; omega)⟩
end
theorem below_grownN {W W' : World} (h : Below W.heap.size W W') : W.grownBy W' none := ⟨h.os, h.tape, h.output, h.size, fun k hk _ => h.block k hk⟩
theorem own_belowJ {β : Type} {B : Nat} {J : β → World → Prop} {s : β} {W W' : World} (hJ : OwnFrom B J) (h : J s W) (hb : Below W.heap.size W W') : J s W' := hJ s W W' none h (below_grownN hb) (fun r e => by cases e)
theorem keep_step {B : Nat} {W W' : World} (hb : Below W.heap.size W W') : KeepsFrom B W W' := ⟨hb.size, fun k o _ hk _ => (hb.block k (Array.getElem?_eq_some_iff.1 hk).1).trans hk⟩
def OnlyN (Q : Act → World → Prop) : Exit → Act → World → Prop
  | .normal, a, w => Q a w
  | _, _, _ => False
theorem wpIn_normal {F : Fence} {n : Nat} {P : Program} {c : Code} {Q : Exit → Act → World → Prop} {a : Act} {w : World} (h : c.wpIn F n P (OnlyN (Q .normal)) a w) : c.wpIn F n P Q a w := wpIn_mono h (fun e a w h => by cases e <;> first | exact h | exact h.elim)
theorem yb {e : Ending} {A B : Prop} (h : (e = .returned (.bool true) ∧ A) ∨ (e = .returned (.bool false) ∧ B)) : ∃ b, e = .returned (.bool b) ∧ (b = true → A) ∧ (b = false → B) := by
  rcases h with ⟨h, a⟩ | ⟨h, a⟩
  · exact ⟨true, h, fun _ => a, fun h => by cases h⟩
  · exact ⟨false, h, fun h => (by cases h), fun _ => a⟩
theorem round_in {m : Nat} {P : Program} {l l2 : Nat} {f : FuncId} {tmps : Array Value} {assign body : Code} {w : World} {R : Ending → World → Prop} (h : RoundIn Fence.wide m P l f tmps assign body w R) : ∀ m', RoundIn (Fence.wide.inRound l2) m' P l f tmps assign body w R := fun _ => ⟨h.1, fun c cs _ => h.2 c cs (fun d hd => by cases hd)⟩
theorem marks_cons {B D : Nat} {Ds : List Nat} {w : World} (h : Marks B Ds w) (hD : w.heap[D]? = some (.deferred (some []))) (hB : B ≤ D) (hn : D ∉ Ds) : Marks B (D :: Ds) w :=
  ⟨fun E hE => (List.mem_cons.1 hE).elim (fun e => e ▸ hB) (h.ge E), fun E hE => (List.mem_cons.1 hE).elim (fun e => e ▸ hD) (h.at_ E), List.nodup_cons.2 ⟨hn, h.nd⟩⟩
/-- Marks, over a predicate that abides their turn. -/
theorem leaves_own {k : Nat} {P : Program} {fn : Func} {tmps : Array Value} {R : Ending → World → Prop} {u : FrameMode} {B : Nat} {G : World → Prop} (hu : u ≠ .run) (hG : OwnFrom B (fun (_ : Unit) W => G W)) : ∀ (Ds : List Nat) (w : World), Marks B Ds w → G w →
    (∀ w', G w' → LeavesInM Fence.wide k P fn tmps R [] u w') → LeavesInM Fence.wide k P fn tmps R (Ds.map mkD) u w
  | [], w, _, hg, h => h w hg
  | D :: Ds, w, hM, hg, h => by
    have hD := hM.at_ D (by simp)
    refine ⟨hu, .inl ⟨D, _, rfl, run_takeDeferred hD, leaves_own hu hG Ds _ ⟨fun E hE => hM.ge E (by simp [hE]), fun E hE => ?_, (List.nodup_cons.1 hM.nd).2⟩ (hG.putObj (s := ()) _ hg (hM.ge D (by simp)) hD rfl) h⟩⟩
    rw [World.putObj_heap_other (fun e => (List.nodup_cons.1 hM.nd).1 (by rw [← e]; exact hE))]
    exact hM.at_ E (by simp [hE])
theorem Marks.keepF {B B' : Nat} {Ds : List Nat} {w w' : World} (h : Marks B Ds w) (hk : KeepsFrom B' w w') (hB : B' ≤ B) : Marks B Ds w' := ⟨h.ge, fun D hD => hk.same D _ (by have := h.ge D hD; omega) (h.at_ D hD) rfl, h.nd⟩
def ItS (wz : World) (d : Nat) : Prop := ∀ (nm : ByteArray) (A : Option Addr) (n c : Nat) (qs : List QR) (K : Option Addr) (k kc : Nat) (cs : List CR) (w : World) (Bd Bc : Nat), csize (.mk nm A n c qs K k kc cs) ≤ 1048576 → COk wz wz.heap.size (.mk nm A n c qs K k kc cs) → Below wz.heap.size wz w →
    w.heap[Bd]? = some (.cells #[.int .i64 (d : Int)] 3 (0, 0)) → C3 w Bc nm A n c K k kc →
    SeqR Tryz.prog 44 #[.pointer (some ⟨Bd, 0, none⟩), .pointer (some ⟨Bc, 0, none⟩)] encsC (KpC wz.heap.size) (fun xs => lnT xs = seqP d (compOf (.mk nm A n c qs K k kc cs))) (fun xs => lnT xs <+: seqP d (compOf (.mk nm A n c qs K k kc cs))) w
set_option maxRecDepth 100000 in
set_option maxHeartbeats 8000000 in
theorem it_succ (wz : World) (d : Nat) (hd12 : d ≤ 12) (hf : Forms wz) (ih : ∀ d2, d = d2 + 1 → ItS wz d2) : ItS wz d := by
  intro nm A n c qs K k kc cs w Bd Bc hM hC hbw hd hc l J Jx W hW hJ hJx hY h0
  show Calls Tryz.prog 44 #[.func (.yield l) #[] #[], .pointer (some ⟨Bd, 0, none⟩), .pointer (some ⟨Bc, 0, none⟩)] W _
  refine (callsIn_wide (n := 3)).1 ?_
  refine callsIn_of_wp_marks Tryz.func44 rfl trivial ?_ rfl
  simp only [Tryz.ntmps44, List.size_toArray, List.length_cons, List.length_nil, Nat.reduceAdd, Nat.reduceSub, Array.replicate_succ, Array.replicate_zero, List.push_toArray, List.append_toArray, List.nil_append, List.cons_append]
  have ha : Below W.heap.size W (W.alloc (.cells #[.func (.yield l) #[] #[]] 68)) := (Below.refl _ W).alloc (Nat.le_refl _) _
  have I0 : Hid (ItB wz (W.alloc (.cells #[.func (.yield l) #[] #[]] 68)) W.heap.size l Bd Bc d nm A n c K k kc) := Lib.hid ⟨heap_alloc_new W _, (ha.block _ (Nat.lt_of_lt_of_le (Array.getElem?_eq_some_iff.1 hd).1 hW.size)).trans ((hW.block _ (Array.getElem?_eq_some_iff.1 hd).1).trans hd), (hc.step hW).step ha, bstep (bstep hbw hW) ha⟩
  have J0 := Lib.hid (own_belowJ hJ h0 ha)
  have HJ := Lib.hid hJ
  have HJx := Lib.hid hJx
  have HY := Lib.hid hY
  have HC := Lib.hid hC
  have HF := Lib.hid hf
  have HM := Lib.hid hM
  have hsz : (W.alloc (.cells #[.func (.yield l) #[] #[]] 68)).heap.size = W.heap.size + 1 := by simp
  have HSZ := Lib.hid (show W.heap.size ≤ (W.alloc (.cells #[.func (.yield l) #[] #[]] 68)).heap.size by rw [hsz]; omega)
  have HWZ := Lib.hid (show wz.heap.size ≤ W.heap.size from (bstep hbw hW).size)
  clear hsz ha h0 hJ hJx hY hC hf hM hW hbw hd hc
  obtain ⟨y0, d0⟩ := I0.out.cells
  obtain ⟨x0, x1, x2⟩ := I0.out.cb.cells
  cases d with
  | zero =>
    obtain ⟨fn0, tm0, as0, bo0, hy0, hR0⟩ := HY.out [] ⟨⟨#[]⟩, by decide⟩ _ J0.out
    dsimp only [encsC] at hy0
    have HR0 := Lib.hid hR0
    clear hR0
    gi_wp2_with fail
    refine ⟨trivial, ?_⟩
    gi_wp2_with fail
    refine (round_deep HR0.out).mono ?_
    rintro e W3 (⟨rfl, hJ3, hk3, hf3⟩ | ⟨rfl, hJx3, hf3⟩)
    · have HJ3 := Lib.hid hJ3
      clear hJ3 hk3 hf3
      gi_wp2
      exact ⟨_, results_none rfl _ _ _, ⟨_, rfl⟩, .inl ⟨_, rfl, HJ3.out⟩⟩
    · have HJ3 := Lib.hid hJx3
      clear hJx3 hf3
      gi_wp2
      exact ⟨_, results_none rfl _ _ _, ⟨_, rfl⟩, .inr ⟨[⟨⟨#[]⟩, by decide⟩], List.prefix_refl _, HJ3.out⟩⟩
  | succ d =>
    have hIH := ih d rfl
    have HIH := Lib.hid hIH
    clear ih hIH
    have dz : ((d : Int) + 1 == 0) = false := by rw [beq_eq_false_iff_ne]; omega
    have cn := isName12 nm (W.alloc (.cells #[.func (.yield l) #[] #[]] 68)) (by have := HM.out; rw [csize] at this; omega) (HF.out.step I0.out.bel)
    have HS1 := Lib.hid (show seqP (d + 1) (compOf (.mk nm A n c qs K k kc cs)) = if nameB nm.data.toList = true then (beginT ++ 58 :: nm.data.toList) :: ((qs.map proQ).map wrP ++ ((cs.map compOf).flatMap (seqP d) ++ [endT ++ 58 :: nm.data.toList])) else [[]] by rw [compOf_mk, seqP])
    have HNM := Lib.hid (show nameB nm.data.toList = true → nm.size ≤ 64 from fun h => by rw [bsize]; exact ((nameB_iff _).1 h).2.2.1)
    generalize nameB nm.data.toList = bn at cn HS1 HNM
    gi_wp2_with fail
    refine ⟨trivial, (callsIn_wide.2 cn).mono ?_⟩
    rintro e w1 ⟨rfl, hb1⟩
    have I1 := Lib.hid (I0.out.step hb1)
    have J1 := Lib.hid (own_belowJ HJ.out J0.out hb1)
    have HZ1 := Lib.hid (Nat.le_trans HSZ.out hb1.size)
    clear cn hb1 I0 J0 y0 d0 x0 x1 x2 HSZ
    generalize W.heap.size = Y at *
    obtain ⟨y0, d0⟩ := I1.out.cells
    obtain ⟨x0, x1, x2⟩ := I1.out.cb.cells
    cases bn
    · rw [if_neg (by simp)] at HS1
      obtain ⟨fn0, tm0, as0, bo0, hy0, hR0⟩ := HY.out [] ⟨⟨#[]⟩, by decide⟩ _ J1.out
      dsimp only [encsC] at hy0
      have HR0 := Lib.hid (hR0)
      clear hR0
      gi_wp2_with fail
      refine (round_deep HR0.out).mono ?_
      rintro e W3 (⟨rfl, hJ3, hk3, hf3⟩ | ⟨rfl, hJx3, hf3⟩)
      · have HJ3 := Lib.hid hJ3
        clear hJ3 hk3 hf3
        gi_wp2
        exact ⟨_, results_none rfl _ _ _, ⟨_, rfl⟩, .inl ⟨[⟨⟨#[]⟩, by decide⟩], by rw [HS1.out]; rfl, HJ3.out⟩⟩
      · have HJ3 := Lib.hid hJx3
        clear hJx3 hf3
        gi_wp2
        exact ⟨_, results_none rfl _ _ _, ⟨_, rfl⟩, .inr ⟨[⟨⟨#[]⟩, by decide⟩], by rw [HS1.out]; exact List.prefix_refl _, HJ3.out⟩⟩
    · rw [if_pos rfl] at HS1
      have hn64 := HNM.out rfl
      have no1 : ¬ 9223372036854775807 < (⟨#[66, 69, 71, 73, 78, 58]⟩ : ByteArray).size + nm.size := by rw [show (⟨#[66, 69, 71, 73, 78, 58]⟩ : ByteArray).size = 6 from rfl]; omega
      have hx0 : ((⟨#[66, 69, 71, 73, 78, 58]⟩ : ByteArray) ++ nm).size ≤ 2000 := by rw [ByteArray.size_append, show (⟨#[66, 69, 71, 73, 78, 58]⟩ : ByteArray).size = 6 from rfl]; omega
      have hxd : ((⟨#[66, 69, 71, 73, 78, 58]⟩ : ByteArray) ++ nm).data.toList = beginT ++ 58 :: nm.data.toList := by simp [beginT]
      obtain ⟨fn0, tm0, as0, bo0, hy0, hR0⟩ := HY.out [] ⟨(⟨#[66, 69, 71, 73, 78, 58]⟩ : ByteArray) ++ nm, hx0⟩ _ J1.out
      dsimp only [encsC] at hy0
      have HR0 := Lib.hid hR0
      have HXD := Lib.hid hxd
      clear hR0 hxd
      gi_wp2_with fail
      refine (round_deep HR0.out).mono ?_
      rintro e W3 (⟨rfl, hJ3, hk3, hf3⟩ | ⟨rfl, hJx3, hf3⟩)
      case inr =>
        have HJ3 := Lib.hid hJx3
        clear hJx3 hf3
        gi_wp2
        exact ⟨_, results_none rfl _ _ _, ⟨_, rfl⟩, .inr ⟨_, by rw [HS1.out]; show [((⟨#[66, 69, 71, 73, 78, 58]⟩ : ByteArray) ++ nm).data.toList] <+: _; rw [HXD.out]; exact ⟨_, rfl⟩, HJ3.out⟩⟩
      case inl =>
        have I3 := Lib.hid (I1.out.keep hk3)
        have J3 : Hid (∃ pre : List Ln, J pre W3 ∧ lnT pre = (beginT ++ 58 :: nm.data.toList) :: ((qs.take 0).map proQ).map wrP) := Lib.hid ⟨_, hJ3, by rw [← HXD.out]; rfl⟩
        have HZ3 := Lib.hid (Nat.le_trans HZ1.out hf3.size)
        have HLN := Lib.hid (And.intro HC.out.rq.len3 HC.out.rc.len3)
        have hn : n ≤ 1048576 := by have h1 := qs_len qs; have h2 := HLN.out; have h3 := HM.out; rw [csize] at h3; omega
        have hk : k ≤ 1048576 := by have h1 := cs_len cs; have h2 := HLN.out; have h3 := HM.out; rw [csize] at h3; omega
        have hmx : Tryz.prog.follows .mixedOrders = true := by kernel_rfl
        clear hJ3 hk3 hf3 HR0 HXD hy0 hx0 no1 y0 d0 x0 x1 x2 I1 J1 HZ1 dz
        obtain ⟨y0, d0⟩ := I3.out.cells
        obtain ⟨x0, x1, x2⟩ := I3.out.cb.cells
        gi_wp2
        clear y0 d0 x0 x1 x2
        gi_loopw [28] (fun s28 wr => ∃ i : Nat, s28 = .int .i64 i ∧ i ≤ n ∧ Hid (ItB wz wr Y l Bd Bc (d + 1) nm A n c K k kc) ∧ Hid (∃ pre : List Ln, J pre wr ∧ lnT pre = (beginT ++ 58 :: nm.data.toList) :: ((qs.take i).map proQ).map wrP) ∧ Hid (Y ≤ wr.heap.size)) (fun s28 _ => n - (intOf s28).toNat)
        case atStart => exact ⟨0, rfl, Nat.zero_le _, I3, J3, HZ3⟩
        case round =>
          clear I3 J3 HZ3
          obtain ⟨i, rfl, hi, I4, J4, HZ4⟩ := hrel
          by_cases hlt : i < n
          · obtain ⟨q, hq⟩ : ∃ q, qs[i]? = some q := ⟨qs[i]'(by have := HLN.out.1; omega), List.getElem?_eq_getElem (by have := HLN.out.1; omega)⟩
            obtain ⟨b, o, hAe, hbz, q0, q1, q2⟩ := ((HC.out.under I4.out.bel).rq).tri hq
            simp only [fQ] at q0 q1 q2
            have ha : Below wr.heap.size wr (wr.alloc (.cells #[.string q.name, .slice q.L q.n q.c, .string q.vl] 30)) := (Below.refl _ wr).alloc (Nat.le_refl _) _
            have I5 := Lib.hid (I4.out.step ha)
            have P5 := Lib.hid (P3.new wr q.name q.vl q.L q.n q.c)
            obtain ⟨pre, hJp, hpre⟩ := J4.out
            have J5 := Lib.hid (own_belowJ HJ.out hJp ha)
            have HPRE := Lib.hid hpre
            have HQ := Lib.hid hq
            have HZ5 := Lib.hid (Nat.le_trans HZ4.out ha.size)
            have CW := Lib.hid (fun (w5 : World) (h5 : Below (wr.alloc (.cells #[.string q.name, .slice q.L q.n q.c, .string q.vl] 30)).heap.size (wr.alloc (.cells #[.string q.name, .slice q.L q.n q.c, .string q.vl] 30)) w5) =>
              have hbel := (I5.out.step h5).bel
              written12 q w5 (((HC.out.under hbel).upper hbel.size).vq q (List.mem_of_getElem? hq)) (by have h1 := qsize_mem12 (List.mem_of_getElem? hq); have h3 := HM.out; rw [csize] at h3; omega) (HF.out.step hbel))
            clear hJp hpre hq J4 ha HZ4 I4
            subst hAe
            obtain ⟨y0, d0⟩ := I5.out.cells
            obtain ⟨p0, p1, p2⟩ := P5.out.cells
            gi_wp2_with fail
            have HDR := Lib.hid (show Below (wr.alloc (.cells #[.string q.name, .slice q.L q.n q.c, .string q.vl] 30)).heap.size (wr.alloc (.cells #[.string q.name, .slice q.L q.n q.c, .string q.vl] 30)) (wr.alloc (.cells #[.string q.name, .slice q.L q.n q.c, .string q.vl] 30)).drew from (Below.refl _ _).drew)
            have hwl := wrP_len (proQ q)
            have hxs : (⟨(wrP (proQ q)).toArray⟩ : ByteArray).size ≤ 2000 := by show (wrP (proQ q)).toArray.size ≤ 2000; simp; omega
            have HXS := Lib.hid hxs
            have HTK := Lib.hid (show ((qs.take (i + 1)).map proQ).map wrP = ((qs.take i).map proQ).map wrP ++ [wrP (proQ q)] by rw [List.take_add_one, HQ.out]; simp)
            clear hwl hxs
            generalize wrP (proQ q) = z at HXS CW HTK
            refine wpIn_normal ?_
            gi_region_with_o (first
              | (refine ⟨trivial, (callsIn_wide.2 (CW.out _ HDR.out)).mono ?_⟩
                 rintro e w6 ⟨rfl, hb6⟩
                 have I6 := Lib.hid (I5.out.step (HDR.out.trans hb6))
                 have J6 := Lib.hid (own_belowJ HJ.out J5.out (HDR.out.trans hb6))
                 have HZ6 := Lib.hid (Nat.le_trans HZ5.out hb6.size)
                 obtain ⟨y6, d6⟩ := I6.out.cells
                 obtain ⟨fn1, tm1, as1, bo1, hy1, hR1⟩ := HY.out pre ⟨⟨z.toArray⟩, HXS.out⟩ _ J6.out
                 dsimp only [encsC] at hy1
                 have HR1 := Lib.hid hR1
                 clear hR1 hb6)
              | (refine (round_deep HR1.out).mono ?_
                 rintro e W3 hh
                 obtain ⟨bv, rfl, hb1, hb2⟩ := yb hh
                 have HB1 := Lib.hid (And.intro hb1 hb2)
                 clear hh hb1 hb2))
            all_goals unfold OnlyN
            all_goals
              cases bv
              · obtain ⟨hJx3, _⟩ := HB1.out.2 rfl
                have HJ3 := Lib.hid hJx3
                clear hJx3
                gi_wp2
                refine ⟨_, results_none rfl _ _ _, ⟨_, rfl⟩, .inr ⟨_, ?_, HJ3.out⟩⟩
                rw [HS1.out, lnT_app, HPRE.out]
                show (beginT ++ 58 :: nm.data.toList) :: ((qs.take i).map proQ).map wrP ++ [z] <+: _
                rw [List.cons_append, ← HTK.out]
                refine (List.cons_prefix_cons).2 ⟨rfl, ?_⟩
                refine List.IsPrefix.trans ?_ (List.prefix_append _ _)
                rw [List.map_map, List.map_map]
                exact (List.take_prefix _ _).map _
              · obtain ⟨hJ3, hk3, hf3⟩ := HB1.out.1 rfl
                have I7 := Lib.hid (I6.out.keep hk3)
                have HZ7 := Lib.hid (Nat.le_trans HZ6.out hf3.size)
                have J7 : Hid (∃ pre : List Ln, J pre W3 ∧ lnT pre = (beginT ++ 58 :: nm.data.toList) :: ((qs.take (i + 1)).map proQ).map wrP) := Lib.hid ⟨_, hJ3, by rw [lnT_app, HPRE.out, HTK.out]; simp [lnT]⟩
                clear hJ3 hk3 hf3 HB1 HR1 hy1 y6 d6 y0 d0 p0 p1 p2 I6 J6 HZ6
                gi_wp2
                go_roundw
                case rel => exact ⟨i + 1, by go_num, by omega, I7, J7, HZ7⟩
                case measure => simp [intOf]; omega
          · obtain rfl : i = n := by omega
            obtain ⟨y0, d0⟩ := I4.out.cells
            obtain ⟨x0, x1, x2⟩ := I4.out.cb.cells
            gi_wp2_with fail
            clear y0 d0 x0 x1 x2
            have HPA := Lib.hid (show ((qs.take i).map proQ).map wrP = (qs.map proQ).map wrP by rw [List.take_of_length_le (by rw [HLN.out.1]; exact Nat.le_refl _)])
            have hZY := HWZ.out
            have hmd : (d : Int) + 1 - 1 = (d : Int) := by omega
            refine wpIn_loop (fun a' w' => ∃ (j : Nat) (Ds : List Nat) (u7 u42 u43 u44 u45 u46 u47 u48 u54 : Value), a' = { tmps := #[.func (.yield l) #[] #[], .pointer (some ⟨Bd, 0, none⟩), .pointer (some ⟨Bc, 0, none⟩), .pointer (some ⟨Y, 0, none⟩), undef, u5, undef, u7, undef, .int .i64 ((d : Int) + 1), .bool false, .bool false, .pointer (some ⟨Bc, 0, none⟩), .string nm, .bool true, .bool false, .bool false, undef, undef, .func (.yield l) #[] #[], .pointer (some ⟨Bc, 0, none⟩), .string nm, .string ((⟨#[66, 69, 71, 73, 78, 58]⟩ : ByteArray) ++ nm), .bool true, .bool false, .pointer (some ⟨Bc, 1, none⟩), .slice A i c, .int .i64 i, .int .i64 i, .bool false, u30, u31, u32, u33, u34, u35, u36, u37, .pointer (some ⟨Bc, 2, none⟩), .slice K k kc, .int .i64 k, .int .i64 j, u42, u43, u44, u45, u46, u47, u48, undef, undef, undef, undef, undef, u54, undef, undef, undef, undef, undef], defers := Ds.map mkD } ∧ j ≤ k ∧ Hid (ItB wz w' Y l Bd Bc (d + 1) nm A i c K k kc) ∧ Hid (∃ pre : List Ln, J pre w' ∧ lnT pre = (beginT ++ 58 :: nm.data.toList) :: ((qs.map proQ).map wrP ++ ((cs.take j).map compOf).flatMap (seqP d))) ∧ Hid (Marks Y Ds w') ∧ Hid (Y ≤ w'.heap.size)) (fun a' _ => k - (intOf (a'.tmps.getD 41 undef)).toNat) ?_ ?_
            · exact ⟨0, [], undef, undef, undef, undef, undef, undef, undef, undef, undef, rfl, Nat.zero_le _, I4, Lib.hid (by obtain ⟨pre, h1, h2⟩ := J4.out; exact ⟨pre, h1, by rw [h2, HPA.out]; simp⟩), Lib.hid ⟨fun D h => (by cases h), fun D h => (by cases h), List.nodup_nil⟩, HZ4⟩
            · rintro a' w8 ⟨j, Ds, u7, u42, u43, u44, u45, u46, u47, u48, u54, rfl, hj, I8, J8, M8, HZ8⟩
              clear I4 J4 HZ4
              obtain ⟨y0, d0⟩ := I8.out.cells
              obtain ⟨x0, x1, x2⟩ := I8.out.cb.cells
              obtain ⟨pre, hJp, hpre⟩ := J8.out
              have HPRE := Lib.hid hpre
              have HJP := Lib.hid hJp
              clear hJp hpre J8
              by_cases hlt2 : j < k
              · obtain ⟨x, hq⟩ : ∃ x, cs[j]? = some x := ⟨cs[j]'(by have := HLN.out.2; omega), List.getElem?_eq_getElem (by have := HLN.out.2; omega)⟩
                obtain ⟨b, o, hKe, hbz, q0, q1, q2⟩ := ((HC.out.under I8.out.bel).rc).tri hq
                have HTK := Lib.hid (show ((cs.take (j + 1)).map compOf).flatMap (seqP d) = ((cs.take j).map compOf).flatMap (seqP d) ++ seqP d (compOf x) by rw [List.take_add_one, hq]; simp)
                have HFL := Lib.hid (show (cs.map compOf).flatMap (seqP d) = ((cs.take j).map compOf).flatMap (seqP d) ++ (seqP d (compOf x) ++ ((cs.drop (j + 1)).map compOf).flatMap (seqP d)) by
                  have hjl : j < cs.length := (List.getElem?_eq_some_iff.1 hq).1
                  have e : cs[j] = x := Option.some.inj ((List.getElem?_eq_getElem hjl).symm.trans hq)
                  conv => lhs; rw [← List.take_append_drop j cs, List.drop_eq_getElem_cons hjl, e]
                  simp)
                have HXC := Lib.hid (HC.out.vc x (List.mem_of_getElem? hq))
                have HXM := Lib.hid (show csize x ≤ 1048576 by have h1 := csize_mem (List.mem_of_getElem? hq); have h3 := HM.out; rw [csize] at h3; omega)
                obtain ⟨xn, xA, xa, xac, xqs, xK, xk, xkc, xcs⟩ := x
                simp only [fC] at q0 q1 q2
                have ha : Below w8.heap.size w8 (w8.alloc (.cells #[.string xn, .slice xA xa xac, .slice xK xk xkc] 25)) := (Below.refl _ w8).alloc (Nat.le_refl _) _
                have h41 : (w8.alloc (.cells #[.string xn, .slice xA xa xac, .slice xK xk xkc] 25)).heap.size = w8.heap.size + 1 := by simp
                have d0' := Lib.cell?_alloc_some (.cells #[.string xn, .slice xA xa xac, .slice xK xk xkc] 25) d0
                clear hq
                subst hKe
                gi_wp2_with fail
                refine ⟨trivial, (linesFn_in 2 _ _ _ _ _ _ _ _ _).mono ?_⟩
                rintro e w' ⟨rfl, rfl⟩
                gi_wp2
                generalize hw5 : ((w8.alloc (.cells #[.string xn, .slice xA xa xac, .slice xK xk xkc] 25)).alloc (.cells #[.string xn, .slice xA xa xac, .slice xK xk xkc] 25)).alloc (.cells #[.int .i64 (d : Int)] 3) = w5
                have hb5 : Below w8.heap.size w8 w5 := by
                  rw [← hw5]
                  exact ((ha.alloc ha.size _).alloc (by simp; omega) _)
                have hz5 : w8.heap.size + 3 = w5.heap.size := by rw [← hw5]; simp
                have hBd : w5.heap[w8.heap.size + 1 + 1]? = some (.cells #[.int .i64 (d : Int)] 3 (0, 0)) := by
                  rw [← hw5]
                  have := heap_alloc_new ((w8.alloc (.cells #[.string xn, .slice xA xa xac, .slice xK xk xkc] 25)).alloc (.cells #[.string xn, .slice xA xa xac, .slice xK xk xkc] 25)) (.cells #[.int .i64 (d : Int)] 3)
                  simpa using this
                have hBc : C3 w5 (w8.heap.size + 1) xn xA xa xac xK xk xkc := by
                  rw [← hw5]
                  have := (C3.new (w8.alloc (.cells #[.string xn, .slice xA xa xac, .slice xK xk xkc] 25)) xn xA xa xac xK xk xkc).step ((Below.refl _ _).alloc (Nat.le_refl _) (.cells #[.int .i64 (d : Int)] 3))
                  simpa using this
                have I9 := Lib.hid (I8.out.step hb5)
                have J9 := Lib.hid (own_belowJ HJ.out HJP.out hb5)
                have M9 := Lib.hid (M8.out.below hb5)
                have HD5 : Hid (∀ D ∈ Ds, D < w5.heap.size) := Lib.hid (fun D hD => M9.out.lt hD)
                have HZ9 : Hid (Y ≤ w5.heap.size) := Lib.hid (Nat.le_trans HZ8.out hb5.size)
                have SQ := HIH.out xn xA xa xac xqs xK xk xkc xcs w5 (w8.heap.size + 1 + 1) (w8.heap.size + 1) HXM.out HXC.out I9.out.bel hBd hBc
                have SQ := Lib.hid SQ
                have HWZ5 := Lib.hid (show wz.heap.size ≤ w5.heap.size from I9.out.bel.size)
                clear hw5 hb5 hz5 hBd hBc ha h41 q0 q1 q2 y0 d0 d0' x0 x1 x2 I8 HJP M8 HZ8
                refine rangeFunc_rec rfl (enters_of Tryz.func44 (by kernel_rfl) rfl) SQ.out KpC.trans (fun W o o' h1 h2 => kpC_put (by have := HWZ5.out; omega) W o o' h1 h2) (Below.refl _ _) (fun _ => rfl)
                  (fun q W => J (pre ++ q) W ∧ ItB wz W Y l Bd Bc (d + 1) nm A i c (some ⟨b, o, none⟩) k kc ∧ Marks Y Ds W ∧ Y ≤ W.heap.size) (fun cc q W => cc = .ret ∧ Jx (pre ++ q) W ∧ Marks Y Ds W) ?own1 ?own2 ⟨by rw [List.append_nil]; exact J9.out, I9.out, M9.out, HZ9.out⟩
                  (fun x => { tmps := #[.func (.yield l) #[] #[], .pointer (some ⟨Bd, 0, none⟩), .pointer (some ⟨Bc, 0, none⟩), .pointer (some ⟨Y, 0, none⟩), undef, u5, undef, .pointer (some ⟨w8.heap.size, 0, none⟩), .string x.1, .int .i64 ((d : Int) + 1), .bool false, .bool false, .pointer (some ⟨Bc, 0, none⟩), .string nm, .bool true, .bool false, .bool false, undef, undef, .func (.yield l) #[] #[], .pointer (some ⟨Bc, 0, none⟩), .string nm, .string ((⟨#[66, 69, 71, 73, 78, 58]⟩ : ByteArray) ++ nm), .bool true, .bool false, .pointer (some ⟨Bc, 1, none⟩), .slice A i c, .int .i64 i, .int .i64 i, .bool false, u30, u31, u32, u33, u34, u35, u36, u37, .pointer (some ⟨Bc, 2, none⟩), .slice (some ⟨b, o, none⟩) k kc, .int .i64 k, .int .i64 j, .bool true, .pointer (some ⟨b, o + j * 3, none⟩), .agg #[.string xn, .slice xA xa xac, .slice xK xk xkc], .agg #[.string xn, .slice xA xa xac, .slice xK xk xkc], .int .i64 ((d : Int) + 1), .int .i64 (d : Int), .func (.func 44) #[] #[.pointer (some ⟨w8.heap.size + 1 + 1, 0, none⟩), .pointer (some ⟨w8.heap.size + 1, 0, none⟩)], .string x.1, undef, undef, undef, undef, u54, undef, undef, undef, undef, undef], defers := [] }) ?assign ?body ?done ?stop
                case own1 =>
                  rintro q X1 X2 row ⟨h1, h2, h3, h4⟩ hg hr
                  exact ⟨(ownFrom_up HJ.out HZ9.out) (pre ++ q) X1 X2 row h1 hg hr, (ownFrom_up itB_own HWZ5.out) q X1 X2 row h2 hg hr, h3.kept (fun D hD => hg.block D (h3.lt hD) (fun e => by have := (hr D e.symm).1; have := HD5.out D hD; omega)), Nat.le_trans h4 hg.size⟩
                case own2 =>
                  rintro cc q X1 X2 row ⟨h1, h2, h3⟩ hg hr
                  exact ⟨h1, (ownFrom_up HJx.out HZ9.out) (pre ++ q) X1 X2 row h2 hg hr, h3.kept (fun D hD => hg.block D (h3.lt hD) (fun e => by have := (hr D e.symm).1; have := HD5.out D hD; omega))⟩
                case assign =>
                  intro l2 x W K2 hK2
                  gi_wp2
                  exact hK2
                case body =>
                  rintro l2 q x W ⟨hJq, hIq, hMq, hzq⟩
                  obtain ⟨fn1, tm1, as1, bo1, hy1, hR1⟩ := HY.out (pre ++ q) x _ hJq
                  dsimp only [encsC] at hy1
                  have HR1 := Lib.hid (round_in (l2 := l2) hR1)
                  have HIQ := Lib.hid hIq
                  have HMQ := Lib.hid (And.intro hMq hzq)
                  obtain ⟨y0, d0⟩ := HIQ.out.cells
                  clear hR1 hJq hIq hMq hzq
                  gi_wp2_with fail
                  refine (HR1.out 2).mono ?_
                  rintro e W3 (⟨rfl, hJ3, hk3, hf3⟩ | ⟨rfl, hJx3, hf3⟩)
                  · have hf5 : KeepsFrom w5.heap.size W W3 := ⟨hf3.size, fun k2 o2 hB h1 ho => hf3.same k2 o2 (by have := HZ9.out; omega) h1 ho⟩
                    have HE := Lib.hid (And.intro hf5 (And.intro hk3 (And.intro (show J (pre ++ (q ++ [x])) W3 by rw [← List.append_assoc]; exact hJ3) (And.intro (HIQ.out.keep hk3) (And.intro (HMQ.out.1.keepF hf3 (Nat.le_refl _)) (Nat.le_trans HMQ.out.2 hf3.size))))))
                    clear hf5 hJ3 hk3 hf3 y0 d0
                    gi_wp2
                    exact HE.out
                  · have hf5 : KeepsFrom w5.heap.size W W3 := ⟨hf3.size, fun k2 o2 hB h1 ho => hf3.same k2 o2 (by have := HZ9.out; omega) h1 ho⟩
                    have HE := Lib.hid (And.intro hf5 (And.intro (show Jx (pre ++ (q ++ [x])) W3 by rw [← List.append_assoc]; exact hJx3) (HMQ.out.1.keepF hf3 (Nat.le_refl _))))
                    clear hf5 hJx3 hf3 y0 d0
                    gi_wp2
                    exact ⟨HE.out.1, rfl, HE.out.2⟩
                case stop =>
                  rintro D cc q W hD hSq ⟨rfl, hJq, hMq⟩ hK
                  have HSQ := Lib.hid hSq
                  have HM2 : Hid (Marks Y (D :: Ds) W) := Lib.hid (marks_cons hMq hK (by have := HZ9.out; omega) (fun h => by have := HD5.out D h; omega))
                  have HJ2 := Lib.hid hJq
                  clear hJq hMq hK hSq
                  gi_wp2
                  refine leaves_own (B := Y) (G := Jx (pre ++ q)) (by simp) (fun s A B row h1 h2 h3 => HJx.out (pre ++ q) A B row h1 h2 h3) (D :: Ds) W HM2.out HJ2.out (fun w' h => ⟨_, results_none rfl _ _ _, ⟨_, rfl⟩, .inr ⟨_, ?_, h⟩⟩)
                  rw [HS1.out, lnT_app, HPRE.out]
                  obtain ⟨tl2, htl⟩ := HSQ.out
                  have hfl := HFL.out
                  rw [← htl] at hfl
                  rw [hfl]
                  exact ⟨tl2 ++ (((cs.drop (j + 1)).map compOf).flatMap (seqP d) ++ [endT ++ 58 :: nm.data.toList]), by simp⟩
                case done =>
                  rintro D ys W hD hys ⟨hJq, hIq, hMq, hzq⟩ hK
                  have HM2 : Hid (Marks Y (D :: Ds) W) := Lib.hid (marks_cons hMq hK (by have := HZ9.out; omega) (fun h => by have := HD5.out D h; omega))
                  have HIQ := Lib.hid hIq
                  have HZQ := Lib.hid hzq
                  have HJ2 : Hid (∃ p2 : List Ln, J p2 W ∧ lnT p2 = (beginT ++ 58 :: nm.data.toList) :: ((qs.map proQ).map wrP ++ ((cs.take (j + 1)).map compOf).flatMap (seqP d))) := Lib.hid ⟨_, hJq, by rw [lnT_app, HPRE.out, hys, HTK.out]; simp⟩
                  clear hJq hMq hK hIq hzq hys
                  gi_wp2
                  refine ⟨⟨j + 1, D :: Ds, .pointer (some ⟨w8.heap.size, 0, none⟩), .bool true, .pointer (some ⟨b, o + j * 3, none⟩), .agg #[.string xn, .slice xA xa xac, .slice xK xk xkc], .agg #[.string xn, .slice xA xa xac, .slice xK xk xkc], .int .i64 ((d : Int) + 1), .int .i64 (d : Int), .func (.func 44) #[] #[.pointer (some ⟨w8.heap.size + 1 + 1, 0, none⟩), .pointer (some ⟨w8.heap.size + 1, 0, none⟩)], .int .i64 ((j : Int) + 1), ?_, by omega, HIQ, HJ2, HM2, HZQ⟩, ?_⟩
                  · rw [show ((j + 1 : Nat) : Int) = (j : Int) + 1 by omega]; rfl
                  · simp [intOf]; omega
              · obtain rfl : j = k := by omega
                have HPB := Lib.hid (show cs.take j = cs from List.take_of_length_le (by rw [HLN.out.2]; exact Nat.le_refl _))
                have no2 : ¬ 9223372036854775807 < (⟨#[69, 78, 68, 58]⟩ : ByteArray).size + nm.size := by rw [show (⟨#[69, 78, 68, 58]⟩ : ByteArray).size = 4 from rfl]; omega
                have hx0 : ((⟨#[69, 78, 68, 58]⟩ : ByteArray) ++ nm).size ≤ 2000 := by rw [ByteArray.size_append, show (⟨#[69, 78, 68, 58]⟩ : ByteArray).size = 4 from rfl]; omega
                have hxd : ((⟨#[69, 78, 68, 58]⟩ : ByteArray) ++ nm).data.toList = endT ++ 58 :: nm.data.toList := by simp [endT]
                obtain ⟨fn1, tm1, as1, bo1, hy1, hR1⟩ := HY.out pre ⟨(⟨#[69, 78, 68, 58]⟩ : ByteArray) ++ nm, hx0⟩ _ HJP.out
                dsimp only [encsC] at hy1
                have HR1 := Lib.hid hR1
                have HXD := Lib.hid hxd
                clear hR1 hxd
                have HS2 := Lib.hid (show lnT (pre ++ [⟨(⟨#[69, 78, 68, 58]⟩ : ByteArray) ++ nm, hx0⟩]) = seqP (d + 1) (compOf (.mk nm A i c qs K j kc cs)) by
                  rw [HS1.out, lnT_app, HPRE.out, HPB.out]
                  show _ ++ [((⟨#[69, 78, 68, 58]⟩ : ByteArray) ++ nm).data.toList] = _
                  rw [HXD.out]; simp)
                gi_wp2_with fail
                refine (round_deep HR1.out).mono ?_
                rintro e W3 (⟨rfl, hJ3, hk3, hf3⟩ | ⟨rfl, hJx3, hf3⟩)
                · have HM2 := Lib.hid (M8.out.keepF hf3 (Nat.le_refl _))
                  have HJ2 := Lib.hid hJ3
                  clear hJ3 hk3 hf3
                  gi_wp2
                  exact leaves_own (B := Y) (G := J _) (by simp) (fun s A B row h1 h2 h3 => HJ.out _ A B row h1 h2 h3) Ds W3 HM2.out HJ2.out (fun w' h => ⟨_, results_none rfl _ _ _, ⟨_, rfl⟩, .inl ⟨_, HS2.out, h⟩⟩)
                · have HM2 := Lib.hid (M8.out.keepF hf3 (Nat.le_refl _))
                  have HJ2 := Lib.hid hJx3
                  clear hJx3 hf3
                  gi_wp2
                  exact leaves_own (B := Y) (G := Jx _) (by simp) (fun s A B row h1 h2 h3 => HJx.out _ A B row h1 h2 h3) Ds W3 HM2.out HJ2.out (fun w' h => ⟨_, results_none rfl _ _ _, ⟨_, rfl⟩, .inr ⟨_, by rw [HS2.out]; exact List.prefix_refl _, h⟩⟩)

end Go.Proofs.YtlfhhnjdfpgadaaGreatDoor
