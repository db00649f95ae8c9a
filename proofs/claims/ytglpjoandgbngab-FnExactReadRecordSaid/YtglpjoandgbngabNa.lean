import Derived.Test.YtglpjoandgbngabPd
import Derived.Test.YtglpjoandgbngabEb
namespace Go.Proofs.Ytglpjoandgbngab
open Go.RowKit Go.Proofs.Sha

theorem empty_iff (l : ByteArray) : l.toList.isEmpty = decide (l.size = 0) := by
  rw [ByteArray.toList_eq]
  have : l.data.toList.length = l.size := rfl
  cases h : l.data.toList with
  | nil =>
    rw [h, List.length_nil] at this
    simp [← this]
  | cons a t =>
    rw [h, List.length_cons] at this
    have h0 : ¬ l.size = 0 := by omega
    simp [h0]
theorem flags_any (k v l r : ByteArray) (w : World) :
    Calls Try.prog 60 #[.agg #[.string k, .string v, .string l, .string r]] w fun e w' => e = .returned (.int .i64 (flagOf l.size r.size : Int)) ∧ Below w.heap.size w w' := by
  have hb : Below w.heap.size w (w.alloc (.cells #[.string k, .string v, .string l, .string r] 26)) := (Below.refl _ _).alloc (Nat.le_refl _) _
  by_cases h1 : l.size = 0
  all_goals by_cases h2 : r.size = 0
  all_goals
    have HF : Hid (∃ f, flagOf l.size r.size = f ∧ f = (if l.size = 0 then 0 else 1) + (if r.size = 0 then 0 else 2)) := ⟨_, rfl, rfl⟩
    have e1 := empty_iff l
    have e2 := empty_iff r
    simp only [h1, h2, decide_true, decide_false] at e1 e2
    clear h1 h2
    go_enter Try.func60, Try.ntmps60
    go_wp2
    go_ret
    obtain ⟨f, hf, hf2⟩ := HF.out
    refine ⟨?_, hb⟩
    rw [hf, hf2]
    rw [empty_iff] at e1 e2
    simp at e1 e2
    simp [e1, e2]
theorem kept_any (w : World) : Calls Try.prog 62 #[] w fun e w' => e = .returned (.agg #[.int .i64 2, .bool false]) ∧ Below w.heap.size w w' := by
  go_enter Try.func62, Try.ntmps62
  go_wp2
  have c0 := Lib.cell_of_heap (heap_alloc_new w (.cells #[.int .i64 2, .bool false] 95)) 0
  have c1 := Lib.cell_of_heap (heap_alloc_new w (.cells #[.int .i64 2, .bool false] 95)) 1
  refine bodyPost_ret (v := .agg #[.int .i64 2, .bool false]) ?_ rfl ⟨rfl, (Below.refl _ _).alloc (Nat.le_refl _) _⟩
  simp [results, Try.results62, go_sem, asAddr, c0, c1]
theorem link_any (n f : Int) (w : World) : Calls Try.prog 57 #[.agg #[.int .i64 n], .int .i64 f] w fun e w' => e = .returned (.agg #[.int .i64 (if f = 0 then 0 else n)]) ∧ Below w.heap.size w w' := by
  have hb : ∀ x, Below w.heap.size w ((w.alloc (.cells #[.int .i64 n] 42)).alloc (.cells #[.int .i64 x] 99)) := fun x => ((Below.refl _ _).alloc (Nat.le_refl _) _).alloc (by simp) _
  have c0 : ∀ x, ((w.alloc (.cells #[.int .i64 n] 42)).alloc (.cells #[.int .i64 x] 99)).cell? ⟨w.heap.size + 1, 0, none⟩ = some (.int .i64 x) := fun x => by
    have := Lib.cell_of_heap (heap_alloc_new (w.alloc (.cells #[.int .i64 n] 42)) (.cells #[.int .i64 x] 99)) 0
    rw [show (w.alloc (.cells #[.int .i64 n] 42)).heap.size = w.heap.size + 1 by simp] at this
    exact this
  by_cases h : f = 0
  · rw [if_pos h]
    subst h
    go_enter Try.func57, Try.ntmps57
    go_wp2
    refine bodyPost_ret (v := .agg #[.int .i64 0]) ?_ rfl ⟨rfl, hb _⟩
    simp [results, Try.results57, go_sem, asAddr]
  · rw [if_neg h]
    go_enter Try.func57, Try.ntmps57
    go_wp2
    refine bodyPost_ret (v := .agg #[.int .i64 n]) ?_ rfl ⟨rfl, hb _⟩
    simp [results, Try.results57, go_sem, asAddr]

theorem wsized2 (b : Nat) (s : ByteArray) (l : List UInt8) (w : World) (h : Bld b l w) (hl : l.length + s.size ≤ 80000) :
    Calls Try.prog 61 #[.pointer (some ⟨b, 0, none⟩), .iface 95 (.agg #[.int .i64 2, .bool false]), .string s] w fun e w' => e = .returned (.tuple #[]) ∧ Put b (l ++ sized s.data.toList) w w' := by
  have := wsized 2 false b s l w (by omega) (by omega) h hl
  have e0 : ∀ x : Nat, UInt8.ofNat (x % 256) = UInt8.ofNat x := fun x => by apply UInt8.toNat.inj; simp
  have e : numTo 2 false s.size 2 = [UInt8.ofNat (s.size / 256), UInt8.ofNat (s.size % 256)] := by simp [numTo, numByte, e0]
  rw [e, List.append_assoc] at this
  exact this

theorem link_ex (n f : Int) (w : World) : Calls Try.prog 57 #[.agg #[.int .i64 n], .int .i64 f] w fun e w' => ∃ p, e = .returned (.agg #[.int .i64 p]) ∧ Below w.heap.size w w' :=
  (link_any n f w).mono (by rintro e w' ⟨rfl, hb⟩; exact ⟨_, rfl, hb⟩)
end Go.Proofs.Ytglpjoandgbngab
