/-
  A list of numbers that came in.
-/
import Derived.Test.YtihmgamdnmipaaaDevOpen
import Derived.Test.YtihmgamdnmipaaaAllocGive
import Derived.Carry
namespace Go.Proofs.Ytihmgamdnmipaaa
open Go.ChangeShapes Go.WideShapes Go.ChangeAt Go.RowKit Go.ChangeMaps

theorem int_hi {x : Int} (h : (Lit.int .i64 x).wf = true) : x ≤ 9223372036854775807 := by
  simp only [Lit.wf, Bool.and_eq_true, decide_eq_true_eq] at h
  have : IntKind.i64.max = 9223372036854775807 := by decide
  omega

section
variable {H : Type} {enc : TypeId × Value → H} {W : World} {base : Nat} {spare : Nat → Bool} {held : Bool} {fuel : Nat}
set_option maxRecDepth 100000 in
theorem open_nums {v : Value} {y : DataW H × List MemPlace} (h : DataW.trod enc Try.prog W base spare held fuel 32 [v] = some y) (hw : ∀ x ∈ DataW.weights Try.prog 32 y.1, x ≤ reachBytes) :
    ∃ A n c l, v = .slice A n c ∧ n ≤ c ∧ c ≤ maxLen ∧ Reads W W.heap.size 1 A n (encI l) ∧ n ≤ 17592186044416 := by
  rcases open_ints Try.underlying32 Try.underlying3 (by kernel_rfl) h with ⟨hcs, hx⟩ | ⟨a, len, cap, zs, hcs, _, hl, hm, hz, hx, hcell, _⟩
  · injection hcs with hcs _
    exact ⟨none, 0, 0, [], hcs, Nat.le_refl _, by simp only [maxLen]; omega, Reads.nil, by omega⟩
  · injection hcs with hcs _
    subst hx
    have hlen : len ≤ zs.length := by rw [hz]; split <;> omega
    have hbytes := hw ((List.length (lits (H := H) .i64 (zs.take len)) + List.length (lits (H := H) .i64 (zs.drop len))) * Try.prog.bytesOf 3) (by simp [DataW.weights, Try.underlying32])
    have hb8 : Try.prog.bytesOf 3 = 8 := by kernel_rfl
    rw [hb8] at hbytes
    have hlen2 : (lits (H := H) .i64 (zs.take len)).length = len := by simp [lits]; omega
    have hre : reachBytes = 140737488351232 := by decide
    rw [hlen2, hre] at hbytes
    refine ⟨some a, len, cap, zs.take len, hcs, hl, hm, ⟨by rw [encI_length, List.length_take]; omega, fun hn => ?_⟩, by omega⟩
    obtain ⟨b, o, rfl⟩ := slice_addr (hcell 0 (by omega))
    refine ⟨b, o, rfl, ?_, fun j u hu => ?_⟩
    · have := World.block_lt_of_cell? W _ (hcell 0 (by omega))
      rw [add_plain] at this
      exact this
    · have hj := (List.getElem?_eq_some_iff.1 hu).1
      rw [encI_length, List.length_take] at hj
      rw [encI_get (by rw [List.length_take]; omega)] at hu
      injection hu with hu
      rw [← hu, ← add_plain, hcell j (by omega)]
      have e : zs.getD j 0 = (zs.take len).getD j 0 := by
        rw [List.getD_eq_getElem?_getD, List.getD_eq_getElem?_getD, List.getElem?_take, if_pos (by omega)]
      rw [e]
end
end Go.Proofs.Ytihmgamdnmipaaa
