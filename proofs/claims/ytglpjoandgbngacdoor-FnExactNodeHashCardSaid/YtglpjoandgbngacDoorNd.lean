import Derived.Test.YtglpjoandgbngacDoorNc
namespace Go.Proofs.YtglpjoandgbngacDoor
open Go.RowKit Go.Proofs.Sha

set_option maxRecDepth 100000 in
theorem sz_any (k v l r : ByteArray) (w : World) (hk : k.size ≤ 9223372036854775807) (hv : v.size ≤ 9223372036854775807) (hl : l.size ≤ 9223372036854775807) (hr : r.size ≤ 9223372036854775807) :
    Calls Tryd.prog 4 #[.agg #[.string k, .string v, .string l, .string r], .int .i64 1048576] w fun e w' => ∃ x : Int, e = .returned (.int .i64 x) ∧ Hid (0 ≤ x → k.size ≤ 1048576 ∧ v.size ≤ 1048576 ∧ l.size ≤ 1048576 ∧ r.size ≤ 1048576) ∧ Below w.heap.size w w' := by
  have hfin : Below w.heap.size w (w.alloc (.cells #[.string k, .string v, .string l, .string r] 23)) := (Below.refl _ _).alloc (Nat.le_refl _) _
  go_enter Tryd.func4, Tryd.ntmps4
  go_wp2
  all_goals go_ret
  all_goals refine ⟨_, rfl, ?_, hfin⟩
  all_goals intro h0
  all_goals omega
theorem toNode_any (k v l r : ByteArray) (w : World) :
    Calls Tryd.prog 6 #[.agg #[.string k, .string v, .string l, .string r]] w fun e w' => e = .returned (.agg #[.string k, .string v, .string l, .string r]) ∧ Below w.heap.size w w' := by
  go_enter Tryd.func6, Tryd.ntmps6
  go_wp2
  refine bodyPost_ret (v := .agg #[.string k, .string v, .string l, .string r]) ?_ rfl ⟨rfl, (((Below.refl _ _).alloc (Nat.le_refl _) _).alloc (by simp) _).alloc (by simp; omega) _⟩
  simp [results, Tryd.results6, go_sem, asAddr]

end Go.Proofs.YtglpjoandgbngacDoor
