/-
  The document's own empty image; blocks taken and given back.
-/
import Derived.Test.YtihmgamdnmipaaaAllocMath2
import Derived.Test.YtihmgamdnmipaaaAllocRefC
namespace Go.Proofs.Ytihmgamdnmipaaa
open Go.RowKit

theorem repl_succ (n : Nat) (s : ByteArray) : List.replicate n s ++ [s] = List.replicate (n + 1) s := by
  rw [List.replicate_succ']
theorem head_zeros {n : Nat} (hn : 8 ≤ n) : superB n :: List.replicate (n - 1) zeroB = makeL n 0 := by
  rw [makeL_zero (by omega)]
  obtain ⟨k, rfl⟩ : ∃ k, n = k + 1 := ⟨n - 1, by omega⟩
  rw [List.replicate_succ]; rfl
theorem makeL_MapP {n k : Nat} (h8 : 8 ≤ n) (h5 : n ≤ 512) : MapP (makeL n k) := ⟨by rw [makeL_length]; exact ⟨h8, h5⟩, by rw [makeL_map (by omega), mapL_size]⟩

/-- An image is told, and an error. -/
def ImgsA (w w' : World) (img : List ByteArray) (code : Int) (e : Ending) : Prop := ∃ A n c, e = .returned (.tuple #[.slice A n c, .int .i64 code]) ∧ Reads w' w'.heap.size 1 A n (encS img) ∧ n ≤ 512 ∧ Below w.heap.size w w'
set_option maxRecDepth 100000 in
set_option maxHeartbeats 4000000 in
theorem refMakeA_any (x : Int) (w : World) : Calls Try.prog 11 #[.int .i64 x] w fun e w' => ImgsA w w' (makeA x).1 (makeA x).2 e := by
  obtain ⟨i0, hi0, hz0, hz1, hz2⟩ := info_parts infoUA
  obtain ⟨s0, hs0, hy0, hy1, hy2⟩ := info_parts infoS
  by_cases hx1 : 8 ≤ x
  · by_cases hx2 : x ≤ 512
    · have HE : Hid (makeA x = (makeL x.toNat (firstA x.toNat), 0)) := Lib.hid (by unfold makeA; rw [if_neg (by omega)])
      obtain ⟨N, rfl⟩ : ∃ N : Nat, x = N := ⟨x.toNat, by omega⟩
      have hN8 : 8 ≤ N := by omega
      have hN5 : N ≤ 512 := by omega
      rw [Int.toNat_natCast] at HE
      have HFL := Lib.hid (first_le hN8 hN5)
      have cf := fun A c W => refFirst_any A N c (by unfold maxLen; omega) W
      have HHZ := Lib.hid (head_zeros hN8)
      have cs := fun W => refSuper_any N W hN5
      generalize superB N = z at cs HHZ
      obtain ⟨F, hF⟩ : ∃ F, F = firstA N := ⟨_, rfl⟩
      rw [← hF] at HE cf HFL
      have hF34 := HFL.out.2.1
      clear hx1 hx2 hF
      go_enter Try.func11, Try.ntmps11
      go_wp2_with fail
      refine (cs _).mono ?_
      rintro e w1 ⟨rfl, hb1⟩
      have O1 := Lib.hid (World.ownsRow_lit (base := w.heap.size) (e := 9) (size := 1) w1 #[.string z] 1 hb1.size (by unfold maxLen; omega) rfl)
      have B1 := Lib.hid (hb1.alloc hb1.size (.cells #[.string z] 9))
      clear hb1
      have h1N : N ≤ 512 := hN5
      go_wp2_with fail
      generalize hgw : w1.alloc (.cells #[.string z] 9) = w2 at O1 B1 ⊢
      go_loopg [4, 5] N (fun gk s4 s5 wr => ∃ (i : Nat) (A2 : Option Addr) (c2 : Nat), 1 ≤ i ∧ i ≤ N ∧ N - i ≤ gk ∧ s5 = .int .i64 i ∧ s4 = .slice A2 i c2 ∧ Hid (wr.ownsRow w.heap.size 9 1 (.slice A2 i c2) i (encS (z :: List.replicate (i - 1) zeroB)) ∧ Below w.heap.size w wr))
      case atStart => exact ⟨1, _, 1, Nat.le_refl _, by omega, by omega, rfl, rfl, Lib.hid ⟨O1.out, B1.out⟩⟩
      case round =>
        obtain ⟨i, A2, c2, hi1, hi, hgk, rfl, rfl, J⟩ := hrel
        clear O1 B1 hgw
        by_cases hlt : i < N
        · have hil : (i : Int) < (N : Int) := by omega
          have hJs := J.out.2.size
          go_wp2_with (at_make; refine wpList_make_full _ rfl _ _ 69 rfl wr.heap.size 5 i0 _ 1 Try.underlying69 hi0 hz0 hz1 .i64 .i64 128 128 128 rfl rfl rfl rfl (by rw [hz2]; omega) (by simp only [maxLen]; omega) (Nat.le_refl _) ?_)
          intro w3 ho3 hg3
          have Y3 := made_byt ho3
          have hcv := Y3.conv (P := Try.prog) Try.underlying69 Try.underlying5 Try.underlying9 128 128 (by simp)
          rw [mkB_zeros] at hcv
          have hb3 : Below wr.heap.size wr w3 := (Below.refl _ _).grown hg3 (Nat.le_refl _) (by intro k hk; cases hk)
          have J3 := Lib.hid (And.intro (own_below J.out.1 hb3) (J.out.2.trans (hb3.mono hJs)))
          clear Y3 ho3 hg3 J hb3
          go_wp2_with (at_builtin; refine wpList_append_reads _ rfl (.tmp 21) (.tmp 24) 22 rfl w.heap.size 9 s0 _ 1 16 Try.underlying22 hs0 hy0 hy1 hy2 rfl (by omega) (.slice A2 i c2) i (encS (z :: List.replicate (i - 1) zeroB)) rfl (own_alloc J3.out.1 _) _ (some ⟨w3.heap.size, 0, none⟩) 1 1 [.string zeroB] rfl (reads_new w3 #[.string zeroB] 9 1 1 rfl) (by simp [Value.oneCell']) (by simp only [maxLen]; omega) (by omega) (by have := J3.out.2.size; simp; omega) ?_; intro A6 c6 w6 ho6 hg6 _)
          have JN : Hid (w6.ownsRow w.heap.size 9 1 (.slice A6 (i + 1) c6) (i + 1) (encS (z :: List.replicate (i + 1 - 1) zeroB)) ∧ Below w.heap.size w w6) := Lib.hid ⟨by
            have e : encS (z :: List.replicate (i - 1) zeroB) ++ [Value.string zeroB] = encS (z :: List.replicate (i + 1 - 1) zeroB) := by
              rw [show i + 1 - 1 = (i - 1) + 1 by omega, ← repl_succ]
              simp [encS]
            rwa [e] at ho6, (J3.out.2.alloc J3.out.2.size _).grown hg6 (by have := J3.out.2.size; simp; omega) (by intro k hk; exact own_row_ge J3.out.1 k hk)⟩
          clear ho6 hg6 J3 hcv
          go_wp2
          go_roundg (N - (i + 1))
          case measure => omega
          case rel => exact ⟨i + 1, A6, c6, by omega, by omega, by omega, by go_num, rfl, JN⟩
        · have : i = N := by omega
          subst this
          have J0 : Hid (Reads wr wr.heap.size 1 A2 i (encS (makeL i 0)) ∧ Below w.heap.size w wr) := Lib.hid ⟨by rw [← HHZ.out]; exact .of_own J.out.1, J.out.2⟩
          clear J
          go_wp2
          go_loopg [4, 6] F (fun gk s4 s6 wr => ∃ (j : Nat) (A2 : Option Addr) (c2 : Nat), j ≤ F ∧ F - j ≤ gk ∧ s6 = .int .i64 j ∧ s4 = .slice A2 i c2 ∧ Hid (Reads wr wr.heap.size 1 A2 i (encS (makeL i j)) ∧ Below w.heap.size w wr))
          case atStart => exact ⟨0, A2, c2, Nat.zero_le _, by omega, rfl, rfl, J0⟩
          case round =>
            clear J0
            obtain ⟨j, A3, c3, hj, hgk, rfl, rfl, J⟩ := hrel
            by_cases hlt : j < F
            · have hjl : (j : Int) < (F : Int) := by omega
              have cset := refSet_any A3 i c3 (makeL i j) j true _ J.out.1 (makeL_MapP hN8 hN5) (by omega)
              rw [setI_turn (by rw [makeL_map (by omega), mapL_bit _ (by omega)]; simp), makeL_turn (by omega)] at cset
              go_wp2_with (go_at_call 27; refine (cf _ _ _).mono ?_; rintro e w8 ⟨rfl, rfl⟩)
              refine cset.mono ?_
              rintro e w8 ⟨g, c8, rfl, hO8, hb8⟩
              have JN : Hid (Reads w8 w8.heap.size 1 (some ⟨g, 0, none⟩) i (encS (makeL i (j + 1))) ∧ Below w.heap.size w w8) := Lib.hid ⟨hO8.reads, J.out.2.trans (hb8.mono J.out.2.size)⟩
              clear hO8 hb8 J
              go_wp2
              go_roundg (F - (j + 1))
              case measure => omega
              case rel => exact ⟨j + 1, _, c8, by omega, by omega, by go_num, rfl, JN⟩
            · have : j = F := by omega
              subst this
              go_wp2_with (go_at_call 27; refine (cf _ _ _).mono ?_; rintro e w8 ⟨rfl, rfl⟩)
              go_ret2
              rw [HE.out]
              exact ⟨A3, i, c3, rfl, J.out.1, hN5, J.out.2⟩
    · have HE : Hid (makeA x = ([], 13)) := Lib.hid (by unfold makeA; rw [if_pos (by omega)])
      have t1 : 512 < x := by omega
      go_enter Try.func11, Try.ntmps11
      go_wp2
      go_ret2
      rw [HE.out]
      exact ⟨none, 0, 0, rfl, Reads.nil, by omega, Below.refl _ _⟩
  · have HE : Hid (makeA x = ([], 13)) := Lib.hid (by unfold makeA; rw [if_pos (by omega)])
    have t1 : x < 8 := by omega
    go_enter Try.func11, Try.ntmps11
    go_wp2
    go_ret2
    rw [HE.out]
    exact ⟨none, 0, 0, rfl, Reads.nil, by omega, Below.refl _ _⟩

end Go.Proofs.Ytihmgamdnmipaaa
