/-
  Blocks taken and given back, as the document tells it.
-/
import Derived.Test.YtihmgamdnmipaaaAllocRefD
namespace Go.Proofs.Ytihmgamdnmipaaa
open Go.RowKit

/-- While blocks are taken: the image of the call's own, the list of numbers of the call's own. -/
structure Tk (w wr : World) (g n c : Nat) (img : List ByteArray) (A : Option Addr) (k ca : Nat) (L : List Nat) : Prop where
  oi : OwI wr w.heap.size g n c img
  ol : wr.ownsRow w.heap.size 3 1 (.slice A k ca) k (encN L)
  below : Below w.heap.size w wr
section
variable {w wr w' : World} {g n c k ca : Nat} {img : List ByteArray} {A : Option Addr} {L : List Nat}
theorem Tk.step (h : Tk w wr g n c img A k ca L) (hb : Below wr.heap.size wr w') : Tk w w' g n c img A k ca L := ⟨h.oi.step hb, own_below h.ol hb, bstep h.below hb⟩
theorem Tk.len (h : Tk w wr g n c img A k ca L) : L.length = k := by have := h.ol.1; rw [encN_length] at this; omega
theorem Tk.app (h : Tk w wr g n c img A k ca L) (o : Obj) {A6 : Option Addr} {k6 c6 i : Nat} (ho : w'.ownsRow w.heap.size 3 1 (.slice A6 k6 c6) k6 (encN L ++ [.int .i64 (i : Int)])) (hg : (wr.alloc o).grownBy w' (Value.slice A k ca).ownBlock) : Tk w w' g n c img A6 k6 c6 (L ++ [i]) :=
  ⟨⟨own_grown (own_alloc h.oi.own o) hg (fun q e1 e2 => own_apart h.oi.own h.ol (by decide) q e1 e2), h.oi.pos⟩, by rw [encN_app]; exact ho, (h.below.alloc h.below.size o).grown hg (by have := h.below.size; simp; omega) (fun q hq => own_row_ge h.ol q hq)⟩
theorem Tk.put (h : Tk w wr g n c img A k ca L) (j : Nat) (s : ByteArray) : Tk w (wr.setCell ⟨g, j, none⟩ (.string s)) g n c (img.set j s) A k ca L :=
  ⟨h.oi.set j s, own_grown h.ol (h.oi.own.stored j (.string s)).2 (fun q e1 e2 => own_apart h.oi.own h.ol (by decide) q e2 e1), h.oi.below_set j _ (Nat.le_refl _) h.below⟩
theorem Tk.image (h : Tk w wr g n c img A k ca L) (hb : Below wr.heap.size wr w') {g2 c2 : Nat} {img2 : List ByteArray} (ho : OwI w' wr.heap.size g2 n c2 img2) : Tk w w' g2 n c2 img2 A k ca L :=
  ⟨⟨own_base ho.own h.below.size, ho.pos⟩, own_below h.ol hb, bstep h.below hb⟩
end
/-- An image is told, numbers, and an error. -/
def ImgL (w w' : World) (img : List ByteArray) (l : List Nat) (code : Int) (e : Ending) : Prop := ∃ A n c A2 k c2, e = .returned (.tuple #[.slice A n c, .slice A2 k c2, .int .i64 code]) ∧ Reads w' w'.heap.size 1 A n (encS img) ∧ n ≤ 512 ∧ Reads w' w'.heap.size 1 A2 k (encN l) ∧ k ≤ 512 ∧ Below w.heap.size w w'

set_option maxRecDepth 100000 in
set_option maxHeartbeats 4000000 in
theorem refTake_any (A : Option Addr) (n c : Nat) (img : List ByteArray) (x : Int) (w : World) (h : Reads w w.heap.size 1 A n (encS img)) (hf : MapP img) :
    Calls Try.prog 18 #[.slice A n c, .int .i64 x] w fun e w' => ImgL w w' (takeA img x).1 (takeA img x).2.1 (takeA img x).2.2 e := by
  obtain ⟨u0, hu0, hz0, hz1, hz2⟩ := info_parts infoUA
  obtain ⟨i0, hi0, hy0, hy1, hy2⟩ := info_parts infoI
  have hl := h.lenS
  have h8 : 8 ≤ n := by have := hf.1; omega
  have h5 : n ≤ 512 := by have := hf.1; omega
  have co := fun W hW => refOwn_any A n c img W hW (by omega)
  by_cases hx : x < 0
  · have HE : Hid (takeA img x = (img, [], 13)) := Lib.hid (by unfold takeA; rw [if_pos hx])
    go_enter Try.func18, Try.ntmps18
    go_wp2_with fail
    refine (co _ h).mono ?_
    rintro e w1 ⟨A1, c1, rfl, ho1, hb1⟩
    go_wp2
    go_ret3
    rw [HE.out]
    exact ⟨A1, n, c1, none, 0, 0, rfl, .of_own ho1, h5, Reads.nil, by omega, hb1⟩
  · obtain ⟨K, rfl⟩ : ∃ K : Nat, x = K := ⟨x.toNat, by omega⟩
    have cfr := refFree_any A n c img w h hf
    by_cases hK : (freeA img).length < K
    · have HE : Hid (takeA img K = (img, [], 18)) := Lib.hid (by unfold takeA; rw [if_neg hx, if_pos (by omega)])
      have H := Lib.hid h
      generalize (freeA img).length = fr at cfr hK
      have hK2 : (fr : Int) < (K : Int) := by omega
      clear h hl
      go_enter Try.func18, Try.ntmps18
      go_wp2_with (go_at_call 25; refine cfr.mono ?_; rintro e w8 ⟨rfl, rfl⟩)
      refine (co _ H.out).mono ?_
      rintro e w1 ⟨A1, c1, rfl, ho1, hb1⟩
      go_wp2
      go_ret3
      rw [HE.out]
      exact ⟨A1, n, c1, none, 0, 0, rfl, .of_own ho1, h5, Reads.nil, by omega, hb1⟩
    · have HE : Hid (takeA img K = (tookA img ((freeA img).take K), (freeA img).take K, 0)) := Lib.hid (by unfold takeA; rw [if_neg hx, if_neg (by omega), Int.toNat_natCast])
      have HK : Hid (K ≤ (freeA img).length) := Lib.hid (by omega)
      have hfl := freeTo_len (img := img) img.length
      have hKn : K ≤ n := by unfold freeA at hK; omega
      generalize (freeA img).length = fr at cfr hK
      have hK2 : ¬ (fr : Int) < (K : Int) := by omega
      have ct := fun (i : Int) W hW => refTaken_any A n c img i W hW hf
      obtain ⟨F, hF⟩ : ∃ F, F = firstA n := ⟨_, rfl⟩
      have cf := fun W => refFirst_any A n c (by unfold maxLen; omega) W
      rw [← hF] at cf
      have HF : Hid (F = firstA img.length ∧ 3 ≤ F) := Lib.hid ⟨by rw [hl]; exact hF, by have := first_le h8 h5; omega⟩
      have hFn : F ≤ n := by have := first_le h8 h5; omega
      have HL := Lib.hid hl
      have HM := Lib.hid hf
      have H := Lib.hid h
      have hco := co w h
      clear h hl hx hK hF hf hfl
      go_enter Try.func18, Try.ntmps18
      go_wp2_with (go_at_call 25; refine cfr.mono ?_; rintro e w8 ⟨rfl, rfl⟩)
      refine hco.mono ?_
      rintro e w1 ⟨A1, c1, rfl, ho1, hb1⟩
      obtain ⟨g, rfl, hO⟩ := OwI.of ho1 (by omega)
      have T1 : Hid (Tk w w1 g n c1 img none 0 0 []) := Lib.hid ⟨hO, own_nil, hb1⟩
      clear hO ho1 hb1 hco
      go_wp2_with (go_at_call 27; refine (cf _).mono ?_; rintro e w8 ⟨rfl, rfl⟩)
      go_loopg [7, 8, 9] n (fun gk s7 s8 s9 wr => ∃ (i k : Nat) (g c1 : Nat) (A8 : Option Addr) (c8 : Nat), F ≤ i ∧ i ≤ n ∧ n - i ≤ gk ∧ k ≤ K ∧ s9 = .int .i64 i ∧ s7 = .slice (some ⟨g, 0, none⟩) n c1 ∧ s8 = .slice A8 k c8 ∧ Hid (Tk w wr g n c1 (tookA img (freeTo img i)) A8 k c8 (freeTo img i)))
      case atStart => exact ⟨F, 0, g, c1, none, 0, Nat.le_refl _, hFn, by omega, by omega, rfl, rfl, rfl, by rw [freeTo_zero (by rw [← HF.out.1]; exact Nat.le_refl _)]; exact T1⟩
      case round =>
        clear T1
        obtain ⟨i, k, g, c1, A8, c8, hFi, hi, hgk, hkK, rfl, rfl, rfl, T⟩ := hrel
        by_cases hlt : i < n
        · have hil : (i : Int) < (n : Int) := by omega
          by_cases hk : k < K
          · have hkl : (k : Int) < (K : Int) := by omega
            have cti := ct i wr (H.out.step T.out.below)
            rw [takenA_in (by rw [HL.out]; exact hlt)] at cti
            obtain ⟨t, ht⟩ : ∃ t, t = bitA (blk img 1) i := ⟨_, rfl⟩
            rw [← ht] at cti
            have HT := Lib.hid ht
            clear ht
            cases t with
            | true =>
              have TN : Hid (Tk w wr g n c1 (tookA img (freeTo img (i + 1))) A8 k c8 (freeTo img (i + 1))) := Lib.hid (by rw [freeTo_no HT.out.symm]; exact T.out)
              clear T
              go_wp2_with (go_at_call 23; refine cti.mono ?_; rintro e w3 ⟨rfl, rfl⟩)
              go_roundg (n - (i + 1))
              case measure => omega
              case rel => exact ⟨i + 1, k, g, c1, A8, c8, by omega, by omega, by omega, by omega, by go_num, rfl, rfl, TN⟩
            | false =>
              have HN : Hid (freeTo img (i + 1) = freeTo img i ++ [i]) := Lib.hid (freeTo_yes HT.out.symm (by rw [← HF.out.1]; exact hFi))
              have HB : Hid (bitA (blk (tookA img (freeTo img i)) 1) i = false ∧ MapP (tookA img (freeTo img i))) := Lib.hid ⟨by rw [free_took_bit HM.out (by rw [HL.out]; exact hi) i (Nat.le_refl _)]; exact HT.out.symm, (took_MapP HM.out _ (fun k hk => (free_in HM.out hk (by rw [HL.out]; exact hi)).1)).1⟩
              have hsz := T.out.below.size
              go_wp2_with (first
                | (go_at_call 23; refine cti.mono ?_; rintro e w3 ⟨rfl, rfl⟩)
                | (at_builtin; refine wpList_append_reads _ rfl (.tmp 40) (.tmp 42) 32 rfl w.heap.size 3 i0 _ 1 8 Try.underlying32 hi0 hy0 hy1 hy2 rfl (by omega) (.slice A8 k c8) k (encN (freeTo img i)) rfl (own_alloc T.out.ol _) _ (some ⟨wr.heap.size, 0, none⟩) 1 1 [.int .i64 (i : Int)] rfl (reads_new wr #[.int .i64 (i : Int)] 3 1 1 rfl) (by simp [Value.oneCell']) (by simp only [maxLen]; omega) (by omega) (by simp; omega) ?_; intro A6 c6 w6 ho6 hg6 _))
              have T6 := Lib.hid (T.out.app _ ho6 hg6)
              have cset := refSet_any (some ⟨g, 0, none⟩) n c1 (tookA img (freeTo img i)) i true _ T6.out.oi.reads HB.out.2 (by omega)
              rw [setI_turn HB.out.1] at cset
              clear ho6 hg6 T hsz cti
              go_wp2_with fail
              refine cset.mono ?_
              rintro e w8 ⟨g8, c9, rfl, hO8, hb8⟩
              have T8 := Lib.hid (T6.out.image hb8 hO8)
              clear hO8 hb8 T6 cset
              go_wp2_with (at_make; refine wpList_make_full _ rfl _ _ 69 rfl w8.heap.size 5 u0 _ 1 Try.underlying69 hu0 hz0 hz1 .i64 .i64 128 128 128 rfl rfl rfl rfl (by rw [hz2]; omega) (by simp only [maxLen]; omega) (Nat.le_refl _) ?_)
              intro w9 ho9 hg9
              have Y9 := made_byt ho9
              have hcv := Y9.conv (P := Try.prog) Try.underlying69 Try.underlying5 Try.underlying9 128 128 (by simp)
              rw [mkB_zeros] at hcv
              have hb9 : Below w8.heap.size w8 w9 := (Below.refl _ _).grown hg9 (Nat.le_refl _) (by intro k hk; cases hk)
              have T9 := Lib.hid (T8.out.step hb9)
              have cc := T9.out.oi.cell i hlt
              have ff := T9.out.oi.free i
              have TN : Hid (Tk w (w9.setCell ⟨g8, i, none⟩ (.string zeroB)) g8 n c9 (tookA img (freeTo img (i + 1))) A6 (k + 1) c6 (freeTo img (i + 1))) := Lib.hid (by
                have := T9.out.put i zeroB
                rw [HN.out, took_snoc]
                exact this)
              clear Y9 ho9 hg9 hb9 T8 T9
              go_wp2
              go_roundg (n - (i + 1))
              case measure => omega
              case rel => exact ⟨i + 1, k + 1, g8, c9, A6, c6, by omega, by omega, by omega, by omega, by go_num, rfl, rfl, TN⟩
          · have hkl : ¬ (k : Int) < (K : Int) := by omega
            have HEQ := Lib.hid (free_eq K i (by rw [HL.out]; exact hi) HK.out (by rw [T.out.len]; exact hkK) (.inr (by rw [T.out.len]; omega)))
            go_wp2
            go_ret3
            rw [HE.out, ← HEQ.out]
            exact ⟨_, n, c1, A8, k, c8, rfl, T.out.oi.reads, h5, .of_own T.out.ol, by omega, T.out.below⟩
        · have : i = n := by omega
          subst this
          have HEQ := Lib.hid (free_eq K i (by rw [HL.out]; exact hi) HK.out (by rw [T.out.len]; exact hkK) (.inl HL.out.symm))
          go_wp2
          go_ret3
          rw [HE.out, ← HEQ.out]
          exact ⟨_, i, c1, A8, k, c8, rfl, T.out.oi.reads, h5, .of_own T.out.ol, by omega, T.out.below⟩

end Go.Proofs.Ytihmgamdnmipaaa
