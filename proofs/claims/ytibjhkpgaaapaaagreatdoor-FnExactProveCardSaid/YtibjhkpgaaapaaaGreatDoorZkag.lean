import Derived.Test.YtibjhkpgaaapaaaGreatDoorZkad
import Derived.Test.YtibjhkpgaaapaaaGreatDoorZkaf
import Derived.Test.YtibjhkpgaaapaaaGreatDoorZkaa
import Derived.OrdersHeld
import Derived.Deep.RegionHeld3
import Derived.Test.YtibjhkpgaaapaaaGreatDoorZkab
import Derived.DeepKeys5
namespace Go.Proofs.YtibjhkpgaaapaaaGreatDoor
open Go.RowKit Go.Proofs.Sha

theorem empty_iff (l : ByteArray) : l.toList.isEmpty = decide (l.size = 0) := by
  rw [ByteArray.toList_eq]
  have : l.data.toList.length = l.size := rfl
  cases h : l.data.toList with
  | nil =>
    rw [h, List.length_nil] at this
    simp [← this]
  | cons a t =>
    rw [h, List.length_cons] at this
    have h0 : ¬ l.size = 0 := by omega
    simp [h0]
theorem flags_any (k v l r : ByteArray) (w : World) :
    Calls Tryz.prog 248 #[.agg #[.string k, .string v, .string l, .string r]] w fun e w' => e = .returned (.int .i64 (flagOf l.size r.size : Int)) ∧ Below w.heap.size w w' := by
  have hb : Below w.heap.size w (w.alloc (.cells #[.string k, .string v, .string l, .string r] 73)) := (Below.refl _ _).alloc (Nat.le_refl _) _
  by_cases h1 : l.size = 0
  all_goals by_cases h2 : r.size = 0
  all_goals
    have HF : Hid (∃ f, flagOf l.size r.size = f ∧ f = (if l.size = 0 then 0 else 1) + (if r.size = 0 then 0 else 2)) := ⟨_, rfl, rfl⟩
    have e1 := empty_iff l
    have e2 := empty_iff r
    simp only [h1, h2, decide_true, decide_false] at e1 e2
    clear h1 h2
    go_enter Tryz.func248, Tryz.ntmps248
    go_wp2
    go_ret
    obtain ⟨f, hf, hf2⟩ := HF.out
    refine ⟨?_, hb⟩
    rw [hf, hf2]
    rw [empty_iff] at e1 e2
    simp at e1 e2
    simp [e1, e2]
theorem kept_any (w : World) : Calls Tryz.prog 170 #[] w fun e w' => e = .returned (.agg #[.int .i64 2, .bool false]) ∧ Below w.heap.size w w' := by
  go_enter Tryz.func170, Tryz.ntmps170
  go_wp2
  have c0 := Lib.cell_of_heap (heap_alloc_new w (.cells #[.int .i64 2, .bool false] 261)) 0
  have c1 := Lib.cell_of_heap (heap_alloc_new w (.cells #[.int .i64 2, .bool false] 261)) 1
  refine bodyPost_ret (v := .agg #[.int .i64 2, .bool false]) ?_ rfl ⟨rfl, (Below.refl _ _).alloc (Nat.le_refl _) _⟩
  simp [results, Tryz.results170, go_sem, asAddr, c0, c1]
theorem link_any (n f : Int) (w : World) : Calls Tryz.prog 245 #[.agg #[.int .i64 n], .int .i64 f] w fun e w' => e = .returned (.agg #[.int .i64 (if f = 0 then 0 else n)]) ∧ Below w.heap.size w w' := by
  have hb : ∀ x, Below w.heap.size w ((w.alloc (.cells #[.int .i64 n] 285)).alloc (.cells #[.int .i64 x] 214)) := fun x => ((Below.refl _ _).alloc (Nat.le_refl _) _).alloc (by simp) _
  have c0 : ∀ x, ((w.alloc (.cells #[.int .i64 n] 285)).alloc (.cells #[.int .i64 x] 214)).cell? ⟨w.heap.size + 1, 0, none⟩ = some (.int .i64 x) := fun x => by
    have := Lib.cell_of_heap (heap_alloc_new (w.alloc (.cells #[.int .i64 n] 285)) (.cells #[.int .i64 x] 214)) 0
    rw [show (w.alloc (.cells #[.int .i64 n] 285)).heap.size = w.heap.size + 1 by simp] at this
    exact this
  by_cases h : f = 0
  · rw [if_pos h]
    subst h
    go_enter Tryz.func245, Tryz.ntmps245
    go_wp2
    refine bodyPost_ret (v := .agg #[.int .i64 0]) ?_ rfl ⟨rfl, hb _⟩
    simp [results, Tryz.results245, go_sem, asAddr]
  · rw [if_neg h]
    go_enter Tryz.func245, Tryz.ntmps245
    go_wp2
    refine bodyPost_ret (v := .agg #[.int .i64 n]) ?_ rfl ⟨rfl, hb _⟩
    simp [results, Tryz.results245, go_sem, asAddr]

theorem wsized2 (b : Nat) (s : ByteArray) (l : List UInt8) (w : World) (h : Bld b l w) (hl : l.length + s.size ≤ 8000000) :
    Calls Tryz.prog 224 #[.pointer (some ⟨b, 0, none⟩), .iface 261 (.agg #[.int .i64 2, .bool false]), .string s] w fun e w' => e = .returned (.tuple #[]) ∧ Put b (l ++ sized s.data.toList) w w' := by
  have := wsized 2 false b s l w (by omega) (by omega) h hl
  have e0 : ∀ x : Nat, UInt8.ofNat (x % 256) = UInt8.ofNat x := fun x => by apply UInt8.toNat.inj; simp
  have e : numTo 2 false s.size 2 = [UInt8.ofNat (s.size / 256), UInt8.ofNat (s.size % 256)] := by simp [numTo, numByte, e0]
  rw [e, List.append_assoc] at this
  exact this

theorem link_ex (n f : Int) (w : World) : Calls Tryz.prog 245 #[.agg #[.int .i64 n], .int .i64 f] w fun e w' => ∃ p, e = .returned (.agg #[.int .i64 p]) ∧ Below w.heap.size w w' :=
  (link_any n f w).mono (by rintro e w' ⟨rfl, hb⟩; exact ⟨_, rfl, hb⟩)
end Go.Proofs.YtibjhkpgaaapaaaGreatDoor
namespace Go.Proofs.YtibjhkpgaaapaaaGreatDoor
open Go.RowKit Go.Proofs.Sha

theorem zq1 {α : Type _} (l : List α) (i : Nat) (a : α) : l.toArray.setIfInBounds i a = (l.set i a).toArray := List.setIfInBounds_toArray l i a
theorem zq2 {α : Type _} {x : α} {xs : List α} {a : α} : (x :: xs).set 0 a = a :: xs := List.set_cons_zero
theorem zq3 {α : Type _} {x : α} {xs : List α} {i : Nat} {a : α} : (x :: xs).set (i + 1) a = x :: xs.set i a := List.set_cons_succ
theorem zq4 {α : Type _} {xs : List α} {i : Nat} (h : i < xs.toArray.size) : xs.toArray[i] = xs[i] := List.getElem_toArray h
theorem zq5 {α : Type _} (a : α) (bs : List α) (h : 0 < (a :: bs).length) : (a :: bs)[0] = a := List.getElem_cons_zero a bs h
theorem zq6 {α : Type _} (a : α) (bs : List α) (i : Nat) (h : i + 1 < (a :: bs).length) : (a :: bs)[i + 1] = bs[i]'(Nat.lt_of_succ_lt_succ h) := List.getElem_cons_succ a bs i h
theorem tkH {P : Program} {md : Region.Mode} {ops : Array Oper} {Q : Exit → Act → World → Prop} {S : World → Prop} {i : Nat} {oi : Oper} {v : Value} {fuel : Nat} {listed : Array Bool} {a : Act} {w : World} (hi : ops[i]? = some oi) (hy : YieldsIf P ops S oi v a)
    (h : wpAnyH P md ops Q S fuel (listed.setIfInBounds i true) (a.put oi.dst v) w)
    (hs : Region.noSelect ops = true := by kernel_rfl) (hf : Region.free md ops listed i = true := by kernel_rfl) (hr : (Region.ready md ops listed).contains i = true := by kernel_rfl)
    (hQ : ∀ c a w, Q (.panic c) (a.put oi.dst v) w → Q (.panic c) a w := by exact fun _ _ _ h => h) (hS : S w := by assumption) : wpAnyH P md ops Q S (fuel + 1) listed a w := wpAnyH_take hi hs hf hr hQ hy hS h
theorem zq {α : Type _} : (∀ (l : List α) (i : Nat) (a : α), l.toArray.setIfInBounds i a = (l.set i a).toArray) ∧ (∀ (x : α) xs a, (x :: xs).set 0 a = a :: xs) ∧ (∀ (x : α) xs i a, (x :: xs).set (i + 1) a = x :: xs.set i a) ∧ (∀ (xs : List α) i (h : i < xs.toArray.size), xs.toArray[i] = xs[i]) ∧ (∀ (a : α) bs (h : 0 < (a :: bs).length), (a :: bs)[0] = a) ∧ (∀ (a : α) bs i (h : i + 1 < (a :: bs).length), (a :: bs)[i + 1] = bs[i]'(Nat.lt_of_succ_lt_succ h)) :=
  ⟨zq1, fun _ _ _ => zq2, fun _ _ _ _ => zq3, fun _ _ => zq4, zq5, zq6⟩
theorem tkI {P : Program} {md : Region.Mode} {ops : Array Oper} {Q : Exit → Act → World → Prop} {S : World → Prop} (i : Nat) {oi : Oper} {v : Value} {fuel : Nat} {listed : Array Bool} {a : Act} {w : World}
    (h : wpAnyH P md ops Q S fuel (listed.setIfInBounds i true) (a.put oi.dst v) w) (hi : ops[i]? = some oi := by rfl) (hy : YieldsIf P ops S oi v a := by refine Or.inl ⟨by rfl, ?_⟩; intro w hSw; go_simp; rfl)
    (hs : Region.noSelect ops = true := by kernel_rfl) (hf : Region.free md ops listed i = true := by kernel_rfl) (hr : (Region.ready md ops listed).contains i = true := by kernel_rfl)
    (hQ : ∀ c a w, Q (.panic c) (a.put oi.dst v) w → Q (.panic c) a w := by exact fun _ _ _ h => h) (hS : S w := by assumption) : wpAnyH P md ops Q S (fuel + 1) listed a w := tkH hi hy h hs hf hr hQ hS
theorem rdH {P : Program} {md : Region.Mode} {ops : Array Oper} {Q : Exit → Act → World → Prop} {S : World → Prop} (i : Nat) {o : Oper} {fuel : Nat} {listed : Array Bool} {a : Act} {w : World}
    (h : ∀ K' : Act → World → Prop, Shut (∀ a w, S w → (S w → wpAnyH P md ops Q S fuel (listed.setIfInBounds i true) a w) → K' a w) → if Region.wanted o (yielded ops a.tmps) = true then Oper.wp P o a w K' Q else K' (a.put o.dst undef) w)
    (hr : Region.ready md ops listed = [i] := by kernel_rfl) (ho : ops[i]? = some o := by rfl) : wpAnyH P md ops Q S (fuel + 1) listed a w := wpAnyH_ready hr (by simp) (AllReadyH.cons ho h AllReadyH.nil)
end Go.Proofs.YtibjhkpgaaapaaaGreatDoor
namespace Go.Proofs.Sha
open Go Go.RowKit

/-- Thirty-two bytes as a key. -/
def K32 (X : List UInt8) : Value := .agg (X.map B).toArray
theorem mapM_some {α β : Type} (f : α → Option β) : ∀ l : List α, (∀ i ∈ l, ∃ y, f i = some y) → ∃ ys, l.mapM f = some ys
  | [], _ => ⟨[], rfl⟩
  | i :: l, h => by
    obtain ⟨y, hy⟩ := h i (List.mem_cons_self ..)
    obtain ⟨ys, hys⟩ := mapM_some f l (fun j hj => h j (List.mem_cons_of_mem _ hj))
    exact ⟨y :: ys, by rw [List.mapM_cons, hy, hys]; rfl⟩
theorem byte_wf (x : UInt8) : (Lit.int .u8 (x.toNat : Int)).wf = true := by
  have e1 : IntKind.u8.min = 0 := rfl
  have e2 : IntKind.u8.max = 255 := rfl
  have := UInt8.toNat_lt x
  unfold Lit.wf
  rw [Bool.and_eq_true, decide_eq_true_eq, decide_eq_true_eq, e1, e2]
  omega
theorem K32_inj {X Y : List UInt8} (h : K32 X = K32 Y) : X = Y := by
  unfold K32 at h
  simp only [Value.agg.injEq] at h
  have h' : X.map B = Y.map B := by
    have := congrArg Array.toList h
    simpa using this
  refine List.map_inj_right (f := B) ?_ |>.1 h'
  intro a b hab
  unfold B at hab
  simp only [Value.int.injEq, true_and] at hab
  exact UInt8.toNat_inj.1 (by omega)

/-- What is asked of the key's type. -/
structure Key32 (P : Program) (k e : TypeId) : Prop where
  ak : P.underlying k = some (.array 32 e)
  ae : P.underlying e = some (.int .u8)
  ce : P.cellsOf e = 1
  ck : P.cellsOf k = 32
  kt : P.keyType k = true
  law : WideMaps.KeyLaw P k
  tz : ∃ d, P.types.size = d + 1
section
variable {P : Program} {k e : TypeId}
theorem key_of (hk : Key32 P k e) (X : List UInt8) (hX : X.length = 32) : ∃ l, keyOf P k (K32 X) = some l := by
  have hform : (K32 X).formed P k = true := by
    unfold K32 Value.formed
    rw [hk.ak]
    simp [hk.ck, hX]
  have hcells : (K32 X).cells.toList = X.map B := by simp [K32, Value.cells]
  have hL : ∃ ls, P.keyLits (P.types.size + 1) k (X.map B) = some ls := by
    obtain ⟨ys, hys⟩ := mapM_some (fun i => P.keyLits P.types.size e (((X.map B).drop (i * P.cellsOf e)).take (P.cellsOf e))) (List.range 32) (fun i hi => by
      have hi' : i < X.length := by rw [hX]; exact List.mem_range.1 hi
      rw [hk.ce, Nat.mul_one]
      have e1 : ((X.map B).drop i).take 1 = [B X[i]] := by
        rw [List.drop_eq_getElem_cons (by rw [List.length_map]; exact hi'), List.take_succ_cons, List.take_zero, List.getElem_map]
      obtain ⟨d, hd⟩ := hk.tz
      refine ⟨[.int .u8 (X[i].toNat : Int)], ?_⟩
      rw [e1, hd]
      have hb := byte_wf X[i]
      simp [Program.keyLits, hk.ae, B, hb])
    refine ⟨ys.flatten, ?_⟩
    have hlen : (X.map B).length = P.cellsOf k := by rw [List.length_map, hX, hk.ck]
    simp only [Program.keyLits, hk.ak, hlen, if_true, hys, Option.map_some]
  obtain ⟨ls, hls⟩ := hL
  refine ⟨.string (keyBytes ls), ?_⟩
  unfold keyOf
  rw [hk.ak]
  simp only [hk.kt, hform, Bool.and_self, if_true, hcells, hls, Option.map_some]

/-- A map from thirty-two bytes to numbers, as a function. -/
structure MapF (F : List UInt8 → Option Int) (r : Nat) (w : World) : Prop where
  is : ∃ (es : Array MapEntry) (clock : Nat), w.heap[r]? = some (.map es clock) ∧ (∀ x ∈ es.toList, ∃ (X : List UInt8) (v : Int), X.length = 32 ∧ x.key = K32 X ∧ x.val = .int .i64 v ∧ F X = some v) ∧ (∀ X v, F X = some v → ∃ x ∈ es.toList, x.key = K32 X)
theorem MapF.below {F : List UInt8 → Option Int} {r : Nat} {w w' : World} (h : MapF F r w) (hb : Below w.heap.size w w') : MapF F r w' := by
  obtain ⟨es, clock, hg, h1, h2⟩ := h.is
  exact ⟨es, clock, (hb.block r (Array.getElem?_eq_some_iff.1 hg).1).trans hg, h1, h2⟩
theorem MapF.kept {F : List UInt8 → Option Int} {r g : Nat} {w w' : World} (h : MapF F r w) (hg : w.grownBy w' (some g)) (hne : r ≠ g) : MapF F r w' := by
  obtain ⟨es, clock, hh, h1, h2⟩ := h.is
  exact ⟨es, clock, (hg.block r (Array.getElem?_eq_some_iff.1 hh).1 (fun e => hne (Option.some.inj e))).trans hh, h1, h2⟩
theorem run_look (hk : Key32 P k e) {mt el : TypeId} (hm : P.underlying mt = some (.map k el)) (hz : ∀ w, (zeroValue el).run P w = .ok (.int .i64 0) w) {F : List UInt8 → Option Int} {r : Nat} {w : World} (h : MapF F r w) (X : List UInt8) (hX : X.length = 32) :
    (Instr.lookup mt (.map (some r)) (K32 X) true).run P w = .ok (.tuple #[.int .i64 ((F X).getD 0), .bool (F X).isSome]) w := by
  obtain ⟨es, clock, hg, h1, h2⟩ := h.is
  obtain ⟨l, hl⟩ := key_of hk X hX
  have hgo : (getObj r).run P w = .ok (.map es clock) w := by simp [getObj, Sem.run, hg]
  have hch := fun em => hk.law.check w em hl
  have hall : ∀ x ∈ es.toList, ∃ l, keyOf P k x.key = some l := fun x hx => by
    obtain ⟨Y, v, hY, hy, _, _⟩ := h1 x hx
    rw [hy]; exact key_of hk Y hY
  unfold Instr.lookup
  simp only [Sem.run_bind, run_underlying hm, Result.andThen_ok, hgo, Sem.run_pure, hch]
  rcases hk.law.find w hl es.toList hall with ⟨hf, hn⟩ | ⟨j, x, hf, hj, hx⟩
  · have hF : F X = none := by
      cases hFX : F X with
      | none => rfl
      | some v =>
        obtain ⟨x, hx, he⟩ := h2 X v hFX
        exact absurd he (hn x hx)
    simp only [hf, Result.andThen_ok, hF, Sem.run_bind, hz, Sem.run_pure]
    rfl
  · obtain ⟨Y, v, hY, hy, hv, hFY⟩ := h1 x (List.mem_of_getElem? hj)
    have : Y = X := K32_inj (hy.symm.trans hx)
    subst this
    simp only [hf, Result.andThen_ok, hFY, hv]
    rfl
theorem run_put (hk : Key32 P k e) {mt el : TypeId} (hm : P.underlying mt = some (.map k el)) {F : List UInt8 → Option Int} {r : Nat} {w : World} (h : MapF F r w) (X : List UInt8) (hX : X.length = 32) (hF : F X = none) (v : Int) :
    ∃ w', (Instr.mapUpdate mt (.map (some r)) (K32 X) (.int .i64 v)).run P w = .ok () w' ∧ MapF (fun Y => if Y = X then some v else F Y) r w' ∧ w.grownBy w' (some r) := by
  obtain ⟨es, clock, hg, h1, h2⟩ := h.is
  obtain ⟨l, hl⟩ := key_of hk X hX
  have hgo : (getObj r).run P w = .ok (.map es clock) w := by simp [getObj, Sem.run, hg]
  have hch := fun em => hk.law.check w em hl
  have hall : ∀ x ∈ es.toList, ∃ l, keyOf P k x.key = some l := fun x hx => by
    obtain ⟨Y, u, hY, hy, _, _⟩ := h1 x hx
    rw [hy]; exact key_of hk Y hY
  have hnone : (Instr.findKey k (K32 X) es.toList).run P w = .ok none w := by
    rcases hk.law.find w hl es.toList hall with ⟨hf, _⟩ | ⟨j, x, hf, hj, hx⟩
    · exact hf
    · obtain ⟨Y, u, hY, hy, _, hFY⟩ := h1 x (List.mem_of_getElem? hj)
      have : Y = X := K32_inj (hy.symm.trans hx)
      rw [this, hF] at hFY; cases hFY
  obtain ⟨o, ho⟩ : ∃ o : Obj, o = .map (es.push { key := K32 X, val := .int .i64 v, born := clock }) (clock + 1) := ⟨_, rfl⟩
  have hso : (setObj r o).run P w = .ok () { w with heap := w.heap.setIfInBounds r o } := by
    simp [setObj, Sem.run, hg]
  refine ⟨{ w with heap := w.heap.setIfInBounds r o }, ?_, ?_, ?_⟩
  · unfold Instr.mapUpdate
    simp only [Sem.run_bind, run_underlying hm, Result.andThen_ok, hgo, hch, hnone]
    rw [← ho]
    exact hso
  · have hlt : r < w.heap.size := (Array.getElem?_eq_some_iff.1 hg).1
    refine ⟨_, _, by show (w.heap.setIfInBounds r o)[r]? = _; rw [Array.getElem?_setIfInBounds_self, if_pos hlt, ho], ?_, ?_⟩
    · intro x hx
      rw [Array.toList_push, List.mem_append, List.mem_singleton] at hx
      rcases hx with hx | rfl
      · obtain ⟨Y, u, hY, hy, hv, hFY⟩ := h1 x hx
        refine ⟨Y, u, hY, hy, hv, ?_⟩
        rw [if_neg (fun e => by rw [e, hF] at hFY; cases hFY)]
        exact hFY
      · exact ⟨X, v, hX, rfl, rfl, if_pos rfl⟩
    · intro Y u hu
      rw [Array.toList_push]
      by_cases e : Y = X
      · subst e
        exact ⟨_, List.mem_append_right _ (List.mem_singleton.2 rfl), rfl⟩
      · rw [if_neg e] at hu
        obtain ⟨x, hx, hy⟩ := h2 Y u hu
        exact ⟨x, List.mem_append_left _ hx, hy⟩
  · refine ⟨rfl, rfl, rfl, by simp, fun j hj hne => ?_⟩
    show (w.heap.setIfInBounds r o)[j]? = _
    rw [Array.getElem?_setIfInBounds_ne (fun e => hne (by rw [e]))]
end
end Go.Proofs.Sha
