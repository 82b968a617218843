/-
  Words for lists of numbers in memory, and for worlds that have drawn.
-/
import Derived.Test.YtihmgamdnmipaaaWalMath
import Derived.Test.YtihmgamdnmipaaaDevLib
import Derived.Deep.QuietTactic
import Derived.BigQuiet
import Derived.Deep.RegionHeld3
namespace Go.Proofs.Ytihmgamdnmipaaa
open Go.RowKit

theorem below_drewN {B : Nat} {a w : World} (h : Below B a w) (k : Nat) : Below B a (w.drewN k) := ⟨h.1, h.2, h.3, h.4, h.5⟩
def encN (l : List Nat) : List Value := l.map fun k : Nat => Value.int .i64 (k : Int)
theorem encN_length (l : List Nat) : (encN l).length = l.length := by simp [encN]
theorem encN_app (a b : List Nat) : encN (a ++ b) = encN a ++ encN b := by simp [encN]
theorem encN_get {l : List Nat} {k : Nat} (hk : k < l.length) : (encN l)[k]? = some (.int .i64 (l.getD k 0 : Nat)) := by simp [encN, hk]
theorem nat_get {l : List Nat} {k : Nat} (hk : k < l.length) : l[k]? = some (l.getD k 0) := by simp [hk]
theorem encN_one (l : List Nat) : ∀ u ∈ encN l, u.oneCell' = true := by
  intro u hu
  obtain ⟨s, _, rfl⟩ := List.mem_map.1 hu
  rfl
section
variable {w : World} {B n : Nat} {A : Option Addr}
theorem Reads.lenN {l : List Nat} (h : Reads w B 1 A n (encN l)) : l.length = n := by have := h.1; rw [encN_length] at this; omega
theorem Reads.nat {l : List Nat} (h : Reads w B 1 A n (encN l)) {k : Nat} (hk : k < n) : ∃ b o, A = some ⟨b, o, none⟩ ∧ b < B ∧ w.cell? ⟨b, o + k, none⟩ = some (.int .i64 (l.getD k 0 : Nat)) := by
  obtain ⟨b, o, e, hb, hc⟩ := h.2 (by omega)
  exact ⟨b, o, e, hb, hc k _ (encN_get (by rw [h.lenN]; exact hk))⟩
end
theorem infoI : (Try.prog.info? 3).map (fun i => (i.zero, i.size, i.bytes)) = some (some (.int .i64 0), 1, 8) := by kernel_rfl


end Go.Proofs.Ytihmgamdnmipaaa
