import Derived.Test.YthopecgcpfhceadEb
import Derived.Deep.QuietTactic
import Derived.BigQuiet
import Derived.OwnWalk
namespace Go.Proofs.Ythopecgcpfhcead
open Go.RowKit Go.Proofs.Sha

theorem bget (p : ByteArray) (k : Nat) (h : k < p.size) : p[k] = p.data.toList.getD k 0 := by
  rw [List.getD_eq_getElem?_getD, List.getElem?_eq_getElem (by exact h)]; rfl
theorem get_nat (s : ByteArray) (k : Nat) (i : Int) (hi : i = (k : Int)) (h : i.toNat < s.size) : ((s[i.toNat]'h).toNat : Int) = ((s.data.toList.getD k 0).toNat : Int) := by
  subst hi; rw [bget s _ h, Int.toNat_natCast]

/-- The size that stands at a place of a text, in two bytes. -/
def szAt (s : ByteArray) (a : Nat) : Nat := (s.data.toList.getD a 0).toNat * 256 + (s.data.toList.getD (a + 1) 0).toNat
theorem szAt_le (s : ByteArray) (a : Nat) : szAt s a ≤ 65535 := by
  unfold szAt
  have h1 := (s.data.toList.getD a 0).toNat_lt
  have h2 := (s.data.toList.getD (a + 1) 0).toNat_lt
  omega
theorem szAt_w (s : ByteArray) (a : Nat) (h1 : a < s.size) (h2 : a + 1 < s.size) : wrap64 (wrap64 (wrap64 (s[a].toNat : Int) * 256) + wrap64 (s[a + 1].toNat : Int)) = (szAt s a : Int) := by
  rw [bget s _ h1, bget s _ h2]
  unfold szAt
  have h3 := (s.data.toList.getD a 0).toNat_lt
  have h4 := (s.data.toList.getD (a + 1) 0).toNat_lt
  unfold wrap64
  omega
def pieceOk (s : ByteArray) (a : Nat) : Prop := a + 2 ≤ s.size ∧ a + 2 + szAt s a ≤ s.size

end Go.Proofs.Ythopecgcpfhcead
