import Derived.Test.YthklibioolnggaaGreatDoorAq
import Derived.Carry
namespace Go.Proofs.YthklibioolnggaaGreatDoor
open Go.RowKit Go.Proofs.Sha

/-- A map keyed by texts: its keys and values in the order in which they were laid. -/
def MapS (r : Nat) (ks : List ByteArray) (vs : List Value) (W : World) : Prop := ∃ (es : Array MapEntry) (clock : Nat), W.heap[r]? = some (.map es clock) ∧ es.toList.map (·.key) = ks.map Value.string ∧ es.toList.map (·.val) = vs
theorem MapS.below {r : Nat} {ks : List ByteArray} {vs : List Value} {W W' : World} (h : MapS r ks vs W) (hb : Below W.heap.size W W') : MapS r ks vs W' := by
  obtain ⟨es, c, h1, h2⟩ := h
  exact ⟨es, c, (hb.block r (Array.getElem?_eq_some_iff.1 h1).1).trans h1, h2⟩
/-- What is found under a key. -/
def findS (k : ByteArray) : List ByteArray → List Value → Nat → Option (Nat × Value)
  | x :: r, v :: s, i => if k = x then some (i, v) else findS k r s (i + 1)
  | _, _, _ => none
theorem bbeq (a b : ByteArray) : (a == b) = decide (a = b) := by
  by_cases h : a = b
  · subst h; rw [decide_eq_true rfl]; show (a.data == a.data) = true; simp
  · rw [decide_eq_false h]; show (a.data == b.data) = false; rw [beq_eq_false_iff_ne]; exact fun e => h (ByteArray.ext e)
theorem find_run (k : ByteArray) : ∀ (es : List MapEntry) (ks : List ByteArray) (vs : List Value) (i : Nat), es.map (·.key) = ks.map Value.string → es.map (·.val) = vs → Instr.findNow .string (.string k) es i = some (findS k ks vs i)
  | [], [], [], i, _, _ => rfl
  | [], x :: r, vs, i, h, _ => by simp at h
  | [], [], v :: s, i, _, h => by simp at h
  | e :: es, [], vs, i, h, _ => by simp at h
  | e :: es, x :: r, [], i, _, h => by simp at h
  | e :: es, x :: r, v :: s, i, h1, h2 => by
    simp only [List.map_cons, List.cons.injEq] at h1 h2
    rw [Instr.findNow, h1.1]
    have hs : Instr.sameNow .string (.string k) (.string x) = some (k == x) := rfl
    rw [hs, findS]
    by_cases hk : k = x
    · subst hk; rw [bbeq, decide_eq_true rfl, if_pos rfl, h2.1]
    · rw [bbeq, decide_eq_false hk, if_neg hk]
      exact find_run k es r s (i + 1) h1.2 h2.2
theorem findKey_run (k : ByteArray) (es : Array MapEntry) (ks : List ByteArray) (vs : List Value) (W : World) (h1 : es.toList.map (·.key) = ks.map Value.string) (h2 : es.toList.map (·.val) = vs) : (Instr.findKey 9 (.string k) es.toList).run Tryz.prog W = .ok (findS k ks vs 0) W := by
  unfold Instr.findKey
  simp only [Sem.run_bind, run_underlying Tryz.underlying9, Result.andThen_ok, find_run k es.toList ks vs 0 h1 h2]
  rfl
theorem checkKey_run (b : Bool) (k : ByteArray) (W : World) : (Instr.checkKey b 10000 9 (.string k)).run Tryz.prog W = .ok () W := by
  unfold Instr.checkKey
  simp only [Sem.run_bind, run_underlying Tryz.underlying9, Result.andThen_ok]
  rfl
theorem run_lookS {r : Nat} {ks : List ByteArray} {vs : List Value} {W : World} (h : MapS r ks vs W) (k : ByteArray) (zv : Value) (hz : (zeroValue 58).run Tryz.prog W = .ok zv W) :
    (Instr.lookup 44 (.map (some r)) (.string k) true).run Tryz.prog W = .ok (.tuple #[((findS k ks vs 0).map (·.2)).getD zv, .bool (findS k ks vs 0).isSome]) W := by
  obtain ⟨es, clock, hg, h1, h2⟩ := h
  have hgo : (getObj r).run Tryz.prog W = .ok (.map es clock) W := by simp [getObj, Sem.run, hg]
  unfold Instr.lookup
  simp only [Sem.run_bind, run_underlying Tryz.underlying44, Result.andThen_ok, hgo, Sem.run_pure, checkKey_run, findKey_run k es ks vs W h1 h2]
  cases hf : findS k ks vs 0 with
  | none => simp only [Sem.run_bind, hz, Result.andThen_ok, Sem.run_pure]; rfl
  | some p => simp only []; rfl
theorem find_none (k : ByteArray) : ∀ (ks : List ByteArray) (vs : List Value) (i : Nat), k ∉ ks → findS k ks vs i = none
  | [], _, _, _ => rfl
  | x :: r, [], _, _ => rfl
  | x :: r, v :: s, i, h => by
    rw [findS, if_neg (fun e => h (by rw [e]; exact List.mem_cons_self ..))]
    exact find_none k r s (i + 1) (fun hm => h (List.mem_cons_of_mem _ hm))
theorem run_putS {r : Nat} {ks : List ByteArray} {vs : List Value} {W : World} (h : MapS r ks vs W) (k : ByteArray) (v : Value) (hk : k ∉ ks) :
    ∃ w', (Instr.mapUpdate 44 (.map (some r)) (.string k) v).run Tryz.prog W = .ok () w' ∧ MapS r (ks ++ [k]) (vs ++ [v]) w' ∧ W.grownBy w' (some r) := by
  obtain ⟨es, clock, hg, h1, h2⟩ := h
  have hgo : (getObj r).run Tryz.prog W = .ok (.map es clock) W := by simp [getObj, Sem.run, hg]
  obtain ⟨o, ho⟩ : ∃ o : Obj, o = .map (es.push { key := .string k, val := v, born := clock }) (clock + 1) := ⟨_, rfl⟩
  have hso : (setObj r o).run Tryz.prog W = .ok () { W with heap := W.heap.setIfInBounds r o } := by
    simp [setObj, Sem.run, hg]
  refine ⟨{ W with heap := W.heap.setIfInBounds r o }, ?_, ?_, ?_⟩
  · unfold Instr.mapUpdate
    simp only [Sem.run_bind, run_underlying Tryz.underlying44, Result.andThen_ok, hgo, checkKey_run, findKey_run k es ks vs W h1 h2, find_none k ks vs 0 hk]
    rw [← ho]
    exact hso
  · have hlt : r < W.heap.size := (Array.getElem?_eq_some_iff.1 hg).1
    refine ⟨_, _, by show (W.heap.setIfInBounds r o)[r]? = _; rw [Array.getElem?_setIfInBounds_self, if_pos hlt, ho], ?_, ?_⟩
    · rw [Array.toList_push, List.map_append, h1, List.map_append]; rfl
    · rw [Array.toList_push, List.map_append, h2]; rfl
  · refine ⟨rfl, rfl, rfl, by simp, fun j hj hne => ?_⟩
    show (W.heap.setIfInBounds r o)[j]? = _
    rw [Array.getElem?_setIfInBounds_ne (fun e => hne (by rw [e]))]

def kindV (sh : ByteArray) (g : Nat) : Value := .agg #[.string sh, .func (.func 55) #[] #[.pointer (some ⟨g, 0, none⟩)]]
set_option maxRecDepth 100000 in
set_option maxHeartbeats 400000 in
theorem opLine_any (sh : ByteArray) (n : Nat) (w : World) : Calls Tryz.prog 34 #[.string sh, .func (.func n) #[] #[]] w fun e w' => ∃ g, e = .returned (kindV sh g) ∧ w.heap.size ≤ g ∧ w'.heap[g]? = some (.cells #[.func (.func n) #[] #[]] 68) ∧ Below w.heap.size w w' := by
  unfold kindV
  have hsf : ∀ (W : World) (a : Addr) (f : Fn) (x y : Array Value) (m : Mode), (store a (.func f x y) m).run Tryz.prog W = stored Tryz.prog W a (.func f x y) m := fun W a f x y m => run_store Tryz.prog W a _ m rfl
  go_enter Tryz.func34, Tryz.ntmps34
  go_wp2_with fail
  have n0 : ((w.alloc (.cells #[.func (.func n) #[] #[]] 68)).alloc (.cells #[.string sh, .func (.func 55) #[] #[.pointer (some ⟨w.heap.size, 0, none⟩)]] 58)).heap[w.heap.size]? = some (.cells #[.func (.func n) #[] #[]] 68) := (Below.heap_alloc _ _ _ (by simp)).trans (heap_alloc_new w _)
  have b0 : Below w.heap.size w ((w.alloc (.cells #[.func (.func n) #[] #[]] 68)).alloc (.cells #[.string sh, .func (.func 55) #[] #[.pointer (some ⟨w.heap.size, 0, none⟩)]] 58)) := ((Below.refl _ w).alloc (Nat.le_refl _) _).alloc (by simp) _
  refine bodyPost_ret (v := .agg #[.string sh, .func (.func 55) #[] #[.pointer (some ⟨w.heap.size, 0, none⟩)]]) ?_ rfl ⟨w.heap.size, rfl, Nat.le_refl _, n0, b0⟩
  clear n0 b0 hsf
  simp [results, Tryz.results34, go_sem, asAddr]
end Go.Proofs.YthklibioolnggaaGreatDoor
