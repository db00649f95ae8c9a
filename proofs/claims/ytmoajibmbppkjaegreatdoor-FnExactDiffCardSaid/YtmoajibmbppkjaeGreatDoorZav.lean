import Derived.Test.YtmoajibmbppkjaeGreatDoorZal
import Derived.Deep.Cut
import Derived.Deep.RegionHeld3
import Derived.Lib.Builder
import Derived.Deep.QuietTactic
import Derived.BigQuiet
import Derived.Test.YtmoajibmbppkjaeGreatDoorZak
import Derived.Test.YtmoajibmbppkjaeGreatDoorZau
namespace Go.Proofs.YtmoajibmbppkjaeGreatDoor
open Go.RowKit Go.Proofs.Sha

/-- A branch that has not been filled. -/
def BR (b : Nat) (hash over under : ByteArray) (par : Option Addr) (w : World) : Prop := w.heap[b]? = some (.cells #[.string hash, .string over, .string under, .pointer par, .string ⟨#[]⟩, .string ⟨#[]⟩, .string ⟨#[]⟩, .string ⟨#[]⟩, .pointer none, .pointer none] 215)
/-- A branch that has been filled. -/
def BF (b : Nat) (hash over under : ByteArray) (par : Option Addr) (k v l r : ByteArray) (pl pr : Option Addr) (w : World) : Prop := w.heap[b]? = some (.cells #[.string hash, .string over, .string under, .pointer par, .string k, .string v, .string l, .string r, .pointer pl, .pointer pr] 215)
theorem emp_iff (s : ByteArray) : s.toList.isEmpty = emp s := by
  rw [ByteArray.toList_eq]
  unfold emp
  by_cases h : s.size = 0
  · rw [decide_eq_true h]
    have : s.data.toList.length = 0 := h
    rw [List.length_eq_zero_iff.1 this]; rfl
  · rw [decide_eq_false h]
    have : s.data.toList.length ≠ 0 := h
    cases hs : s.data.toList with
    | nil => rw [hs] at this; exact absurd rfl this
    | cons a b => rfl
theorem branchAt_none (over under : ByteArray) (par : Option Addr) (w : World) : Calls Tryz.prog 179 #[.string ⟨#[]⟩, .agg #[.string over, .string under, .pointer par]] w fun e w' => e = .returned (.pointer none) ∧ Below w.heap.size w w' := by
  have hb : Below w.heap.size w (w.alloc (.cells #[.string over, .string under, .pointer par] 213)) := (Below.refl _ _).alloc (Nat.le_refl _) _
  go_enter Tryz.func179, Tryz.ntmps179
  go_wp2_with fail
  go_ret
  exact ⟨rfl, hb⟩
theorem branchAt_some (hash over under : ByteArray) (par : Option Addr) (w : World) (hn : emp hash = false) : Calls Tryz.prog 179 #[.string hash, .agg #[.string over, .string under, .pointer par]] w fun e w' => (∃ b, e = .returned (.pointer (some ⟨b, 0, none⟩)) ∧ w.heap.size ≤ b ∧ BR b hash over under par w') ∧ Below w.heap.size w w' := by
  have hz : hash.toList.isEmpty = false := (emp_iff hash).trans hn
  have hb : Below w.heap.size w ((w.alloc (.cells #[.string over, .string under, .pointer par] 213)).alloc (.cells #[.string hash, .string over, .string under, .pointer par, .string ⟨#[]⟩, .string ⟨#[]⟩, .string ⟨#[]⟩, .string ⟨#[]⟩, .pointer none, .pointer none] 215)) := ((Below.refl _ _).alloc (Nat.le_refl _) _).alloc (by simp) _
  have nA := heap_alloc_new (w.alloc (.cells #[.string over, .string under, .pointer par] 213)) (.cells #[.string hash, .string over, .string under, .pointer par, .string ⟨#[]⟩, .string ⟨#[]⟩, .string ⟨#[]⟩, .string ⟨#[]⟩, .pointer none, .pointer none] 215)
  rw [World.size_alloc] at nA
  go_enter Tryz.func179, Tryz.ntmps179
  go_wp2_with fail
  go_ret
  exact ⟨⟨w.heap.size + 1, rfl, by omega, nA⟩, hb⟩
end Go.Proofs.YtmoajibmbppkjaeGreatDoor
namespace Go.Proofs.YtmoajibmbppkjaeGreatDoor
open Go.RowKit Go.Proofs.Sha

theorem drew1 {w wr : World} (h : ∃ m, wr = w.drewN m) : ∃ m, wr.drew = w.drewN m := by
  obtain ⟨m, rfl⟩ := h
  exact ⟨m + 1, by rw [← World.drewN_drewN]; rfl⟩
set_option maxRecDepth 100000 in
set_option maxHeartbeats 400000 in
theorem less_q (p q : ByteArray) (w : World) (hp : p.size ≤ 1048576) (hq : q.size ≤ 1048576) :
    Calls Tryz.prog 119 #[.string p, .string q] w fun e w' => e = .returned (.bool (Op.bytesLess p.data.toList q.data.toList)) ∧ (∃ m, w' = w.drewN m) := by
  have hpl : p.data.toList.length = p.size := rfl
  have hql : q.data.toList.length = q.size := rfl
  go_enter Tryz.func119, Tryz.ntmps119
  go_wp2_with fail
  go_loopw [5] (fun t wr => ∃ k : Nat, k ≤ p.size ∧ k ≤ q.size ∧ t = .int .i64 (k : Int) ∧ Hid (Op.bytesLess p.data.toList q.data.toList = Op.bytesLess (p.data.toList.drop k) (q.data.toList.drop k)) ∧ ∃ m, wr = w.drewN m) (fun t _ => p.size - (intOf t).toNat)
  case atStart => exact ⟨0, by omega, by omega, rfl, rfl, 0, rfl⟩
  case round =>
    obtain ⟨k, hk1, hk2, rfl, HL, hb⟩ := hrel
    by_cases h1 : k < p.size
    · by_cases h2 : k < q.size
      · have z1 : (0 : Int) ≤ (k : Int) := by omega
        have z2 : (k : Int) < (p.size : Int) := by omega
        have z3 : (k : Int) < (q.size : Int) := by omega
        go_wp2_with fail
        go_region
        rw [bget p k h1, bget q k h2]
        have HE := less_eq p.data.toList q.data.toList k h1 h2
        have HN := less_ne p.data.toList q.data.toList k h1 h2
        obtain ⟨x, hx⟩ : ∃ x, p.data.toList.getD k 0 = x := ⟨_, rfl⟩
        obtain ⟨y, hy⟩ : ∃ y, q.data.toList.getD k 0 = y := ⟨_, rfl⟩
        rw [hx, hy] at HE HN
        rw [hx, hy]
        have HXY : Hid (p.data.toList.getD k 0 = x ∧ q.data.toList.getD k 0 = y) := ⟨hx, hy⟩
        clear hx hy
        by_cases hxy : x = y
        · have c0 : ((x.toNat : Int) != (y.toNat : Int)) = false := by rw [hxy]; simp
          have HE' : Hid (Op.bytesLess p.data.toList q.data.toList = Op.bytesLess (p.data.toList.drop (k + 1)) (q.data.toList.drop (k + 1))) := HL.out.trans (HE hxy)
          clear HE HN hxy
          go_wp2_with fail
          go_roundw
          case rel => exact ⟨k + 1, by omega, by omega, by go_num, HE', drew1 hb⟩
          case measure => simp [intOf]; omega
        · have c0 : ((x.toNat : Int) != (y.toNat : Int)) = true := by
            rw [bne_iff_ne]; exact fun h => hxy (UInt8.toNat_inj.1 (by omega))
          have HN' : Hid (Op.bytesLess p.data.toList q.data.toList = decide (x.toNat < y.toNat)) := (HL.out.trans (HN hxy)).trans (by simp)
          clear HE HN hxy
          go_wp2_with fail
          go_region
          rw [bget p k h1, bget q k h2, HXY.out.1, HXY.out.2]
          go_wp2
          go_ret
          exact ⟨by rw [HN'.out]; rfl, drew1 (drew1 hb)⟩
      · have HN' : Hid (Op.bytesLess p.data.toList q.data.toList = decide (p.size < q.size)) := (HL.out.trans (less_end p.data.toList q.data.toList k (.inr (by omega)) (by omega) (by omega))).trans (by simp)
        go_wp2
        go_ret
        exact ⟨by rw [HN'.out]; rfl, hb⟩
    · have HN' : Hid (Op.bytesLess p.data.toList q.data.toList = decide (p.size < q.size)) := (HL.out.trans (less_end p.data.toList q.data.toList k (.inl (by omega)) (by omega) (by omega))).trans (by simp)
      go_wp2
      go_ret
      exact ⟨by rw [HN'.out]; rfl, hb⟩

end Go.Proofs.YtmoajibmbppkjaeGreatDoor
