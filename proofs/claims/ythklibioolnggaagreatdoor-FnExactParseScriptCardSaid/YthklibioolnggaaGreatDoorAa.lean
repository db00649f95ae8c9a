import Derived.Test.YthklibioolnggaaGreatDoorYh
import Derived.Test.YthklibioolnggaaGreatDoorProg
import Derived.Great.Walk
import Derived.Test.YthklibioolnggaaGreatDoorR
namespace Go.Proofs.YthklibioolnggaaGreatDoor
open Go.RowKit Go.Proofs.Sha

theorem bget (p : ByteArray) (k : Nat) (h : k < p.size) : p[k] = p.data.toList.getD k 0 := by
  rw [List.getD_eq_getElem?_getD, List.getElem?_eq_getElem (by exact h)]; rfl
theorem wr_in (n : Int) (h : -9223372036854775808 ≤ n ∧ n ≤ 9223372036854775807) : wrap64 n = n := by unfold wrap64; omega

def isWd (n : Int) : Bool := decide (1 ≤ n) && decide (n ≤ 32)

theorem iwidth_any (n : Int) (w : World) : Calls Tryz.prog 78 #[.int .i64 n] w fun e w' => e = .returned (.bool (isWd n)) ∧ w' = w := by
  by_cases h1 : 1 ≤ n
  · go_enter Tryz.func78, Tryz.ntmps78
    go_wp2_with fail
    go_ret
    simp [isWd, h1]
  · go_enter Tryz.func78, Tryz.ntmps78
    go_wp2_with fail
    go_ret
    simp [isWd]; omega

theorem swidth_any (n : Int) (w : World) : Calls Tryz.prog 11 #[.int .i64 n] w fun e w' => e = .returned (.bool (isWd n)) ∧ w' = w := by
  by_cases h1 : 1 ≤ n
  · go_enter Tryz.func11, Tryz.ntmps11
    go_wp2_with fail
    go_ret
    simp [isWd, h1]
  · go_enter Tryz.func11, Tryz.ntmps11
    go_wp2_with fail
    go_ret
    simp [isWd]; omega

/-- What a letter of a shape asks of a number. -/
def fitV (c : UInt8) (n : Int) : Bool := if c = 87 then isWd n else if c = 67 then decide (0 ≤ n) && decide (n ≤ 1048576) else true

theorem fits_any (c : UInt8) (n : Int) (w : World) : Calls Tryz.prog 65 #[.int .u8 (c.toNat : Int), .int .i64 n] w fun e w' => e = .returned (.bool (fitV c n)) ∧ w' = w := by
  have e1 : ((c.toNat : Int) = 87) ↔ c = 87 := by
    constructor
    · intro h; exact UInt8.toNat_inj.1 (by have : c.toNat = 87 := by omega
                                           rw [this]; rfl)
    · rintro rfl; rfl
  have e2 : ((c.toNat : Int) = 67) ↔ c = 67 := by
    constructor
    · intro h; exact UInt8.toNat_inj.1 (by have : c.toNat = 67 := by omega
                                           rw [this]; rfl)
    · rintro rfl; rfl
  by_cases h1 : c = 87
  · subst h1
    go_enter Tryz.func65, Tryz.ntmps65
    go_wp2_with (first | (go_at_call 78; refine (iwidth_any _ _).mono ?_; rintro e w' ⟨rfl, rfl⟩))
    go_ret
    simp [fitV]
  · have z1 : ((c.toNat : Int) == 87) = false := by rw [beq_eq_false_iff_ne]; exact fun h => h1 (e1.1 h)
    by_cases h2 : c = 67
    · subst h2
      by_cases h3 : 0 ≤ n
      · go_enter Tryz.func65, Tryz.ntmps65
        go_wp2_with fail
        go_ret
        simp [fitV, h3]
      · go_enter Tryz.func65, Tryz.ntmps65
        go_wp2_with fail
        go_ret
        simp [fitV]; omega
    · have z2 : ((c.toNat : Int) == 67) = false := by rw [beq_eq_false_iff_ne]; exact fun h => h2 (e2.1 h)
      have hv : Hid (fitV c n = true) := by show _ = _; simp [fitV, h1, h2]
      clear e1 e2 h1 h2
      go_enter Tryz.func65, Tryz.ntmps65
      go_wp2_with fail
      go_ret
      exact ⟨by rw [hv.out]; rfl, rfl⟩

end Go.Proofs.YthklibioolnggaaGreatDoor
