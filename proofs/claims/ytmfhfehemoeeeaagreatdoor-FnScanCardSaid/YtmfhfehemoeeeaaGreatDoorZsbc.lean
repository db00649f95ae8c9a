import Derived.Test.YtmfhfehemoeeeaaGreatDoorZsbb
import Derived.Test.YtmfhfehemoeeeaaGreatDoorZsba
import Derived.Deep.QuietTactic
import Derived.BigQuiet
import Derived.Test.YtmfhfehemoeeeaaGreatDoorZsaa
import Derived.OrdersHeld
import Derived.Deep.RegionHeld3
import Derived.LaidEql
import Derived.Test.YtmfhfehemoeeeaaGreatDoorZsad
import Derived.Deep.AppendLies
import Derived.Deep.Cut
import Derived.Test.YtmfhfehemoeeeaaGreatDoorZsae
import Derived.Test.YtmfhfehemoeeeaaGreatDoorZsaf
set_option maxRecDepth 100000
set_option maxHeartbeats 1000000
namespace Go.Proofs.YtmfhfehemoeeeaaGreatDoor
open Go.RowKit Go.Proofs.Sha

/-- Pairs as cells. -/
def flatP : List PairT → List Value
  | [] => []
  | p :: l => .string p.1 :: .string p.2 :: flatP l
theorem flatP_len : ∀ l : List PairT, (flatP l).length = l.length * 2
  | [] => rfl
  | p :: l => by simp only [flatP, List.length_cons, flatP_len l]; omega
theorem flatP_app : ∀ l m : List PairT, flatP (l ++ m) = flatP l ++ flatP m
  | [], m => rfl
  | p :: l, m => by simp only [List.cons_append, flatP, flatP_app l m]
theorem flatP_get : ∀ (l : List PairT) (j : Nat), j < l.length → (flatP l)[j * 2]? = some (.string (l.getD j noPair).1) ∧ (flatP l)[j * 2 + 1]? = some (.string (l.getD j noPair).2)
  | [], j, h => absurd h (Nat.not_lt_zero _)
  | p :: l, 0, _ => ⟨rfl, rfl⟩
  | p :: l, j + 1, h => by
    have := flatP_get l j (by simpa using h)
    rw [show (j + 1) * 2 = j * 2 + 2 by omega]
    simpa [flatP] using this
theorem flatP_set : ∀ (l : List PairT) (k : Nat) (x y : ByteArray), k < l.length → ((flatP l).set (k * 2) (.string x)).set (k * 2 + 1) (.string y) = flatP (l.set k (x, y))
  | [], k, _, _, h => absurd h (Nat.not_lt_zero _)
  | p :: l, 0, _, _, _ => rfl
  | p :: l, k + 1, x, y, h => by
    have := flatP_set l k x y (by simpa using h)
    rw [show (k + 1) * 2 = k * 2 + 2 by omega]
    simpa [flatP] using this
theorem Row.parg {w : World} {base g c n : Nat} {ps : List PairT} (h : Row w base g n c (flatP ps)) (hs : SmallP ps) : PArg (some ⟨g, 0, none⟩) ps w := by
  refine ⟨hs.1, hs.2, fun _ => ⟨g, 0, rfl, h.lt, fun j hj => ?_⟩⟩
  have hn := h.len
  rw [flatP_len] at hn
  obtain ⟨e0, e1⟩ := flatP_get ps j hj
  rw [Nat.zero_add]
  exact ⟨(h.cell _ (by omega)).trans e0, (h.cell _ (by omega)).trans e1⟩
theorem info37 : (Tryz.prog.info? 56).map (fun i => (i.zero, i.size, i.bytes)) = some (some (.agg #[.string ⟨#[]⟩, .string ⟨#[]⟩]), 2, 32) := by kernel_rfl
theorem info_parts2 {i : Option TypeInfo} {a : Option Value} {b c : Nat} (h : i.map (fun i => (i.zero, i.size, i.bytes)) = some (a, b, c)) : ∃ j, i = some j ∧ j.zero = a ∧ j.size = b ∧ j.bytes = c := by
  cases i with
  | none => cases h
  | some j => simp only [Option.map_some, Option.some.injEq, Prod.mk.injEq] at h; exact ⟨j, rfl, h.1, h.2.1, h.2.2⟩
theorem pairOk_any (k v : ByteArray) (w : World) (hk : k.size ≤ 1048576) (hv : v.size ≤ 1048576) : Calls Tryz.prog 42 #[.string k, .string v] w fun e w' => e = .returned (.bool (okKey k && okVal v)) ∧ w = w' := by
  have hr : okVal v = decide ((v.size : Int) ≤ 2000) := by
    unfold okVal
    by_cases c2 : v.size ≤ 2000
    · rw [decide_eq_true (by omega), decide_eq_true (by omega)]
    · rw [decide_eq_false (by omega), decide_eq_false (by omega)]
  by_cases c1 : 1 ≤ k.size
  · by_cases c2 : k.size ≤ 256
    · have hq : okKey k = true := by unfold okKey; rw [decide_eq_true (by omega)]
      rw [hq, hr, Bool.true_and]
      have z1 : decide ((k.size : Int) ≥ 1) = true := by rw [decide_eq_true_eq]; omega
      have z2 : decide ((1 : Int) ≤ (k.size : Int)) = true := by rw [decide_eq_true_eq]; omega
      have z3 : decide ((k.size : Int) ≤ 256) = true := by rw [decide_eq_true_eq]; omega
      have z4 : 0 < k.size := by omega
      have z5 : decide (1 ≤ k.size) = true := decide_eq_true c1
      clear hr hq
      go_enter Tryz.func42, Tryz.ntmps42
      go_wp2_with fail
      go_ret
      exact ⟨rfl, rfl⟩
    · have hq : okKey k = false := by unfold okKey; rw [decide_eq_false (by omega)]
      rw [hq, Bool.false_and]
      have z1 : decide ((k.size : Int) ≥ 1) = true := by rw [decide_eq_true_eq]; omega
      have z2 : decide ((1 : Int) ≤ (k.size : Int)) = true := by rw [decide_eq_true_eq]; omega
      have z3 : decide ((k.size : Int) ≤ 256) = false := by rw [decide_eq_false_iff_not]; omega
      have z4 : 0 < k.size := by omega
      have z5 : decide (1 ≤ k.size) = true := decide_eq_true c1
      clear hr hq
      go_enter Tryz.func42, Tryz.ntmps42
      go_wp2_with fail
      go_ret
      exact ⟨rfl, rfl⟩
  · have hq : okKey k = false := by unfold okKey; rw [decide_eq_false (by omega)]
    rw [hq, Bool.false_and]
    have z1 : decide ((k.size : Int) ≥ 1) = false := by rw [decide_eq_false_iff_not]; omega
    have z2 : decide ((1 : Int) ≤ (k.size : Int)) = false := by rw [decide_eq_false_iff_not]; omega
    have z0 : k.size = 0 := by omega
    clear hr hq
    go_enter Tryz.func42, Tryz.ntmps42
    go_wp2_with fail
    go_ret
    exact ⟨rfl, rfl⟩
theorem drew1 {w wr : World} (h : ∃ m, wr = w.drewN m) : ∃ m, wr.drew = w.drewN m := by
  obtain ⟨m, rfl⟩ := h
  exact ⟨m + 1, by rw [← World.drewN_drewN]; rfl⟩
theorem less_q (p q : ByteArray) (w : World) (hp : p.size ≤ 1048576) (hq : q.size ≤ 1048576) :
    Calls Tryz.prog 43 #[.string p, .string q] w fun e w' => e = .returned (.bool (Op.bytesLess p.data.toList q.data.toList)) ∧ (∃ m, w' = w.drewN m) := by
  have hpl : p.data.toList.length = p.size := rfl
  have hql : q.data.toList.length = q.size := rfl
  go_enter Tryz.func43, Tryz.ntmps43
  go_wp2_with fail
  go_loopw [5] (fun t wr => ∃ k : Nat, k ≤ p.size ∧ k ≤ q.size ∧ t = .int .i64 (k : Int) ∧ Hid (Op.bytesLess p.data.toList q.data.toList = Op.bytesLess (p.data.toList.drop k) (q.data.toList.drop k)) ∧ ∃ m, wr = w.drewN m) (fun t _ => p.size - (intOf t).toNat)
  case atStart => exact ⟨0, by omega, by omega, rfl, rfl, 0, rfl⟩
  case round =>
    obtain ⟨k, hk1, hk2, rfl, HL, hb⟩ := hrel
    by_cases h1 : k < p.size
    · by_cases h2 : k < q.size
      · have z1 : (0 : Int) ≤ (k : Int) := by omega
        have z2 : (k : Int) < (p.size : Int) := by omega
        have z3 : (k : Int) < (q.size : Int) := by omega
        go_wp2_with fail
        go_region
        rw [bget p k h1, bget q k h2]
        have HE := less_eq p.data.toList q.data.toList k h1 h2
        have HN := less_ne p.data.toList q.data.toList k h1 h2
        obtain ⟨x, hx⟩ : ∃ x, p.data.toList.getD k 0 = x := ⟨_, rfl⟩
        obtain ⟨y, hy⟩ : ∃ y, q.data.toList.getD k 0 = y := ⟨_, rfl⟩
        rw [hx, hy] at HE HN
        rw [hx, hy]
        have HXY : Hid (p.data.toList.getD k 0 = x ∧ q.data.toList.getD k 0 = y) := ⟨hx, hy⟩
        clear hx hy
        by_cases hxy : x = y
        · have c0 : ((x.toNat : Int) != (y.toNat : Int)) = false := by rw [hxy]; simp
          have HE' : Hid (Op.bytesLess p.data.toList q.data.toList = Op.bytesLess (p.data.toList.drop (k + 1)) (q.data.toList.drop (k + 1))) := HL.out.trans (HE hxy)
          clear HE HN hxy
          go_wp2_with fail
          go_roundw
          case rel => exact ⟨k + 1, by omega, by omega, by go_num, HE', drew1 hb⟩
          case measure => simp [intOf]; omega
        · have c0 : ((x.toNat : Int) != (y.toNat : Int)) = true := by
            rw [bne_iff_ne]; exact fun h => hxy (UInt8.toNat_inj.1 (by omega))
          have HN' : Hid (Op.bytesLess p.data.toList q.data.toList = decide (x.toNat < y.toNat)) := (HL.out.trans (HN hxy)).trans (by simp)
          clear HE HN hxy
          go_wp2_with fail
          go_region
          rw [bget p k h1, bget q k h2, HXY.out.1, HXY.out.2]
          go_wp2
          go_ret
          exact ⟨by rw [HN'.out]; rfl, drew1 (drew1 hb)⟩
      · have HN' : Hid (Op.bytesLess p.data.toList q.data.toList = decide (p.size < q.size)) := (HL.out.trans (less_end p.data.toList q.data.toList k (.inr (by omega)) (by omega) (by omega))).trans (by simp)
        go_wp2
        go_ret
        exact ⟨by rw [HN'.out]; rfl, hb⟩
    · have HN' : Hid (Op.bytesLess p.data.toList q.data.toList = decide (p.size < q.size)) := (HL.out.trans (less_end p.data.toList q.data.toList k (.inl (by omega)) (by omega) (by omega))).trans (by simp)
      go_wp2
      go_ret
      exact ⟨by rw [HN'.out]; rfl, hb⟩

theorem pairOk_q (k v : ByteArray) (w : World) (hk : k.size ≤ 1048576) (hv : v.size ≤ 1048576) : Calls Tryz.prog 42 #[.string k, .string v] w fun e w' => e = .returned (.bool (okKey k && okVal v)) ∧ w' = w :=
  (pairOk_any k v w hk hv).mono fun _ _ ⟨he, hw⟩ => ⟨he, hw.symm⟩
theorem lessL (a b : ByteArray) : Op.bytesLess a.data.toList b.data.toList = lessB a b := by unfold lessB; rw [ByteArray.toList_eq, ByteArray.toList_eq]
theorem lessS_q (p q : ByteArray) (w : World) (hp : p.size ≤ 1048576) (hq : q.size ≤ 1048576) : Calls Tryz.prog 43 #[.string p, .string q] w fun e w' => e = .returned (.bool (lessB p q)) ∧ (∃ m, w' = w.drewN m) := by
  have := less_q p q w hp hq
  rw [lessL] at this
  exact this
theorem draws_below {a w : World} {B : Nat} (n : Nat) (h : Below B a w) : Below B a (w.drewN n) := ⟨h.os, h.tape, h.output, h.size, h.block⟩
theorem zq1 {α : Type _} (l : List α) (i : Nat) (a : α) : l.toArray.setIfInBounds i a = (l.set i a).toArray := List.setIfInBounds_toArray l i a
theorem zq2 {α : Type _} {x : α} {xs : List α} {a : α} : (x :: xs).set 0 a = a :: xs := List.set_cons_zero
theorem zq3 {α : Type _} {x : α} {xs : List α} {i : Nat} {a : α} : (x :: xs).set (i + 1) a = x :: xs.set i a := List.set_cons_succ
theorem zq4 {α : Type _} {xs : List α} {i : Nat} (h : i < xs.toArray.size) : xs.toArray[i] = xs[i] := List.getElem_toArray h
theorem zq5 {α : Type _} (a : α) (bs : List α) (h : 0 < (a :: bs).length) : (a :: bs)[0] = a := List.getElem_cons_zero a bs h
theorem zq6 {α : Type _} (a : α) (bs : List α) (i : Nat) (h : i + 1 < (a :: bs).length) : (a :: bs)[i + 1] = bs[i]'(Nat.lt_of_succ_lt_succ h) := List.getElem_cons_succ a bs i h
theorem tkH {P : Program} {md : Region.Mode} {ops : Array Oper} {Q : Exit → Act → World → Prop} {S : World → Prop} {i : Nat} {oi : Oper} {v : Value} {fuel : Nat} {listed : Array Bool} {a : Act} {w : World} (hi : ops[i]? = some oi) (hy : YieldsIf P ops S oi v a)
    (h : wpAnyH P md ops Q S fuel (listed.setIfInBounds i true) (a.put oi.dst v) w)
    (hs : Region.noSelect ops = true := by kernel_rfl) (hf : Region.free md ops listed i = true := by kernel_rfl) (hr : (Region.ready md ops listed).contains i = true := by kernel_rfl)
    (hQ : ∀ c a w, Q (.panic c) (a.put oi.dst v) w → Q (.panic c) a w := by exact fun _ _ _ h => h) (hS : S w := by assumption) : wpAnyH P md ops Q S (fuel + 1) listed a w := wpAnyH_take hi hs hf hr hQ hy hS h
theorem zq {α : Type _} : (∀ (l : List α) (i : Nat) (a : α), l.toArray.setIfInBounds i a = (l.set i a).toArray) ∧ (∀ (x : α) xs a, (x :: xs).set 0 a = a :: xs) ∧ (∀ (x : α) xs i a, (x :: xs).set (i + 1) a = x :: xs.set i a) ∧ (∀ (xs : List α) i (h : i < xs.toArray.size), xs.toArray[i] = xs[i]) ∧ (∀ (a : α) bs (h : 0 < (a :: bs).length), (a :: bs)[0] = a) ∧ (∀ (a : α) bs i (h : i + 1 < (a :: bs).length), (a :: bs)[i + 1] = bs[i]'(Nat.lt_of_succ_lt_succ h)) :=
  ⟨zq1, fun _ _ _ => zq2, fun _ _ _ _ => zq3, fun _ _ => zq4, zq5, zq6⟩
theorem tkI {P : Program} {md : Region.Mode} {ops : Array Oper} {Q : Exit → Act → World → Prop} {S : World → Prop} (i : Nat) {oi : Oper} {v : Value} {fuel : Nat} {listed : Array Bool} {a : Act} {w : World}
    (h : wpAnyH P md ops Q S fuel (listed.setIfInBounds i true) (a.put oi.dst v) w) (hi : ops[i]? = some oi := by rfl) (hy : YieldsIf P ops S oi v a := by refine Or.inl ⟨by rfl, ?_⟩; intro w hSw; go_simp; rfl)
    (hs : Region.noSelect ops = true := by kernel_rfl) (hf : Region.free md ops listed i = true := by kernel_rfl) (hr : (Region.ready md ops listed).contains i = true := by kernel_rfl)
    (hQ : ∀ c a w, Q (.panic c) (a.put oi.dst v) w → Q (.panic c) a w := by exact fun _ _ _ h => h) (hS : S w := by assumption) : wpAnyH P md ops Q S (fuel + 1) listed a w := tkH hi hy h hs hf hr hQ hS
theorem rdH {P : Program} {md : Region.Mode} {ops : Array Oper} {Q : Exit → Act → World → Prop} {S : World → Prop} (i : Nat) {o : Oper} {fuel : Nat} {listed : Array Bool} {a : Act} {w : World}
    (h : ∀ K' : Act → World → Prop, Shut (∀ a w, S w → (S w → wpAnyH P md ops Q S fuel (listed.setIfInBounds i true) a w) → K' a w) → if Region.wanted o (yielded ops a.tmps) = true then Oper.wp P o a w K' Q else K' (a.put o.dst undef) w)
    (hr : Region.ready md ops listed = [i] := by kernel_rfl) (ho : ops[i]? = some o := by rfl) : wpAnyH P md ops Q S (fuel + 1) listed a w := wpAnyH_ready hr (by simp) (AllReadyH.cons ho h AllReadyH.nil)
end Go.Proofs.YtmfhfehemoeeeaaGreatDoor
namespace Go.Proofs.Sha
open Go Go.RowKit

/-- Pointers to blocks of cells, or none, are equal just where they are the same. -/
theorem run_equalIn_ptr {P : Program} (d : Nat) (t te : TypeId) (j : TypeInfo) (hu : P.underlying t = some (.pointer te)) (hj : P.info? te = some j) (hz : j.size ≠ 0) (a b : Option Addr) (w : World)
    (ha : a = none ∨ ∃ (x : Nat) (cs : Array Value) (u : TypeId), a = some ⟨x, 0, none⟩ ∧ w.heap[x]? = some (.cells cs u (0, 0))) (hb : b = none ∨ ∃ (x : Nat) (cs : Array Value) (u : TypeId), b = some ⟨x, 0, none⟩ ∧ w.heap[x]? = some (.cells cs u (0, 0))) :
    (Op.equalIn (d + 1) t (.pointer a) (.pointer b)).run P w = .ok (decide (a = b)) w := by
  rcases ha with rfl | ⟨x, cs, u, rfl, hx⟩ <;> rcases hb with rfl | ⟨y, ds, v, rfl, hy⟩
  · simp [Op.equalIn, run_underlying hu]
  · simp [Op.equalIn, run_underlying hu]
  · simp [Op.equalIn, run_underlying hu]
  · by_cases e : x = y
    · subst e
      simp [Op.equalIn, run_underlying hu, sizeOf, typeInfo, hj, run_sameAddr_same]
    · have hne : (⟨x, 0, none⟩ : Addr) ≠ ⟨y, 0, none⟩ := fun q => e (congrArg Addr.block q)
      simp [Op.equalIn, run_underlying hu, sizeOf, typeInfo, hj, hz, run_sameAddr_other w hne hx hy]
theorem run_eql_ptr {P : Program} (t te : TypeId) (j : TypeInfo) (hu : P.underlying t = some (.pointer te)) (hj : P.info? te = some j) (hz : j.size ≠ 0) (a b : Option Addr) (w : World)
    (ha : a = none ∨ ∃ (x : Nat) (cs : Array Value) (u : TypeId), a = some ⟨x, 0, none⟩ ∧ w.heap[x]? = some (.cells cs u (0, 0))) (hb : b = none ∨ ∃ (x : Nat) (cs : Array Value) (u : TypeId), b = some ⟨x, 0, none⟩ ∧ w.heap[x]? = some (.cells cs u (0, 0))) :
    (binOp .eql t (.pointer a) (.pointer b)).run P w = .ok (.bool (decide (a = b))) w := by
  have key : (Op.equal t (.pointer a) (.pointer b)).run P w = .ok (decide (a = b)) w := run_equalIn_ptr 9999 t te j hu hj hz a b w ha hb
  simp only [binOp]
  simp [key]
end Go.Proofs.Sha
namespace Go.Proofs.YtmfhfehemoeeeaaGreatDoor
open Go.RowKit Go.Proofs.Sha

theorem own2_cells {w : World} {base g n : Nat} {v : Value} {xs : List Value} (h : w.ownsRow base 56 2 v n xs) (hv : v.ownBlock = some g) : base ≤ g ∧ g < w.heap.size ∧ ∃ cur, w.heap[g]? = some (.cells cur 56 (0, 0)) := by
  rcases h.2 with ⟨rfl, _⟩ | ⟨g', cap, cur, rfl, hb, hg, _⟩
  · cases hv
  · obtain rfl : g' = g := Option.some.inj hv
    exact ⟨hb, (Array.getElem?_eq_some_iff.1 hg).1, cur, hg⟩
theorem own2_kept {w w' : World} {base n : Nat} {v : Value} {xs : List Value} (h : w.ownsRow base 56 2 v n xs) (hk : ∀ g, v.ownBlock = some g → g < w.heap.size → w'.heap[g]? = w.heap[g]?) : w'.ownsRow base 56 2 v n xs := by
  refine ⟨h.1, ?_⟩
  rcases h.2 with ⟨h1, h2⟩ | ⟨g, cap, cur, hv, hb, hg, rest⟩
  · exact .inl ⟨h1, h2⟩
  · exact .inr ⟨g, cap, cur, hv, hb, (hk g (by rw [hv]; rfl) (Array.getElem?_eq_some_iff.1 hg).1).trans hg, rest⟩
theorem own2_mono {w : World} {base base' n : Nat} {v : Value} {xs : List Value} (h : w.ownsRow base 56 2 v n xs) (hb : base' ≤ base) : w.ownsRow base' 56 2 v n xs := by
  refine ⟨h.1, ?_⟩
  rcases h.2 with ⟨h1, h2⟩ | ⟨g, cap, cur, hv, hg, rest⟩
  · exact .inl ⟨h1, h2⟩
  · exact .inr ⟨g, cap, cur, hv, Nat.le_trans hb hg, rest⟩
section
variable {w : World} {g8 g12 g16 gz g17 : Nat} {wd : Nat} {a : Option Addr} {n c : Nat} {over under : ByteArray} {cnt : Nat} {W W' : World}
end
/-- No pairs: the empty row that the call has laid. -/
theorem own2_nil {w : World} {base gz : Nat} (hb : base ≤ gz) (h : w.heap[gz]? = some (.cells #[] 56)) : w.ownsRow base 56 2 (.slice (some ⟨gz, 0, none⟩) 0 0) 0 [] :=
  ⟨rfl, .inr ⟨gz, 0, #[], rfl, hb, h, by simp⟩⟩
theorem drop_getD (ps : List PairT) (i : Nat) (h : i < ps.length) : ps.drop i = ps.getD i noPair :: ps.drop (i + 1) := by
  rw [List.drop_eq_getElem_cons h]
  congr 1
  simp [List.getD_eq_getElem?_getD, List.getElem?_eq_getElem h]
theorem ba_eq {a b : ByteArray} : (a.toList == b.toList) = decide (a = b) := by
  by_cases e : a = b
  · subst e; simp
  · rw [decide_eq_false e, beq_eq_false_iff_ne]
    intro h
    rw [ByteArray.toList_eq, ByteArray.toList_eq] at h
    exact e (ByteArray.ext (Array.toList_inj.1 h))
/-- A row of pairs of the call's own, while it is put together. -/
structure OwnP (w : World) (xs : List PairT) (a : Option Addr) (m c : Nat) (W : World) : Prop where
  own : W.ownsRow w.heap.size 56 2 (.slice a m c) m (flatP xs)
  bel : Below w.heap.size w W
  len : xs.length = m
theorem OwnP.below {w W W' : World} {xs : List PairT} {a : Option Addr} {m c : Nat} (h : OwnP w xs a m c W) (hb : Below W.heap.size W W') : OwnP w xs a m c W' :=
  ⟨own2_kept h.own (fun q _ hq => hb.block q hq), h.bel.trans (hb.mono h.bel.size), h.len⟩
theorem OwnP.more {w W W' : World} {xs : List PairT} {a : Option Addr} {m c m' g cap : Nat} {y : PairT} {o : Obj} (h : OwnP w xs a m c W) (hown : W'.ownsRow w.heap.size 56 2 (.slice (some ⟨g, 0, none⟩) m' cap) m' (flatP xs ++ [.string y.1, .string y.2])) (hgrow : (W.alloc o).grownBy W' (Value.slice a m c).ownBlock) (hm : m' = m + 1) : OwnP w (xs ++ [y]) (some ⟨g, 0, none⟩) m' cap W' := by
  have ha := h.below ((Below.refl W.heap.size W).alloc (Nat.le_refl _) o)
  refine ⟨by rw [flatP_app]; exact hown, ha.bel.grown hgrow ha.bel.size (fun q hq => (own2_cells ha.own hq).1), by rw [List.length_append, h.len, hm]; rfl⟩
/-- What a function that makes pairs answers. -/
def PairsAt (xs : List PairT) (w : World) (e : Ending) (w' : World) : Prop := ∃ a c, e = .returned (.slice a xs.length c) ∧ OwnP w xs a xs.length c w'
theorem take_getD (ps : List PairT) (i : Nat) (h : i < ps.length) : ps.take (i + 1) = ps.take i ++ [ps.getD i noPair] := by
  rw [List.take_add_one, List.getElem?_eq_getElem h]
  simp [List.getD_eq_getElem?_getD, List.getElem?_eq_getElem h]
theorem wout_app (a b : List PairT) (k : ByteArray) : wout (a ++ b) k = wout a k ++ wout b k := List.filter_append ..
theorem wout_le (ps : List PairT) (k : ByteArray) : (wout ps k).length ≤ ps.length := List.length_filter_le ..
theorem OwnP.nil (w : World) : OwnP w [] (some ⟨w.heap.size, 0, none⟩) 0 0 (w.alloc (.cells #[] 56)) :=
  ⟨own2_nil (Nat.le_refl _) (heap_alloc_new w _), (Below.refl _ _).alloc (Nat.le_refl _) _, rfl⟩
theorem without_any (a : Option Addr) (ps : List PairT) (c : Nat) (key : ByteArray) (w : World) (h : PArg a ps w) : Calls Tryz.prog 84 #[.slice a ps.length c, .string key] w (PairsAt (wout ps key) w) := by
  obtain ⟨i0, hi0, hz0, hz1, hz2⟩ := info_parts2 info37
  have hn := h.le
  obtain ⟨N, hN⟩ : ∃ N, ps.length = N := ⟨_, rfl⟩
  rw [hN] at hn ⊢
  have hNl : Hid (ps.length = N) := hN
  clear hN
  have hO := OwnP.nil w
  go_enter Tryz.func84, Tryz.ntmps84
  go_wp2_with fail
  go_loopw [5, 6] (fun t5 t6 wr => ∃ k : Nat, k ≤ N ∧ t6 = .int .i64 (k : Int) ∧ ∃ (a' : Option Addr) (m d' : Nat), t5 = .slice a' m d' ∧ OwnP w (wout (ps.take k) key) a' m d' wr) (fun _ t6 _ => N - (intOf t6).toNat)
  case atStart => exact ⟨0, Nat.zero_le _, rfl, _, _, _, rfl, hO⟩
  case round =>
    obtain ⟨k, hk, rfl, a', m, d', rfl, hW⟩ := hrel
    by_cases hlt : k < N
    · have z1 : decide ((k : Int) < (N : Int)) = true := by simp; omega
      have hx0 : (0 : Int) ≤ (k : Int) := Int.natCast_nonneg _
      have hx1 : (k : Int) < (N : Int) := by omega
      obtain ⟨b1, off1, rfl, hbl1, hc⟩ := (h.below hW.bel).at_ (by rw [hNl.out]; omega)
      obtain ⟨hc1, hc2⟩ := hc k (by rw [hNl.out]; exact hlt)
      have hml : m ≤ 1048576 := by have := hW.len; have := wout_le (ps.take k) key; rw [List.length_take] at this; omega
      have htk : Hid (wout (ps.take (k + 1)) key = wout (ps.take k) key ++ wout [ps.getD k noPair] key) := by
        show _ = _
        rw [take_getD ps k (by rw [hNl.out]; exact hlt), wout_app]
      generalize ps.getD k noPair = p at hc1 hc2 htk
      obtain ⟨pk, pv⟩ := p
      simp only at hc1 hc2
      have hbs := hW.bel.size
      by_cases e : pk = key
      · have z2 : (pk.toList == key.toList) = true := by rw [ba_eq, decide_eq_true e]
        have hf : Hid (wout [(pk, pv)] key = []) := by show _ = _; simp [wout, e]
        clear e hc
        go_wp2_with fail
        go_roundw
        case rel => exact ⟨k + 1, hlt, by go_num, _, _, _, rfl, by rw [htk.out, hf.out, List.append_nil]; exact hW⟩
        case measure => simp [intOf]; omega
      · have z2 : (pk.toList == key.toList) = false := by rw [ba_eq, decide_eq_false e]
        have hf : Hid (wout [(pk, pv)] key = [(pk, pv)]) := by show _ = _; simp [wout, e]
        have own := hW.own
        clear e hc
        go_wp2_with (at_builtin; refine wpList_append_lies _ rfl (.tmp 21) (.tmp 26) 23 rfl w.heap.size 56 i0 (.agg #[.string ⟨#[]⟩, .string ⟨#[]⟩]) 2 32 Tryz.underlying23 hi0 hz0 hz1 hz2 rfl (by decide) (.slice a' m d') m (flatP (wout (ps.take k) key)) rfl (own.alloc _) ⟨wr.heap.size, 0, none⟩ 1 1 [.string pk, .string pv] rfl rfl (World.news_of_block (heap_alloc_new wr _)) (by simp [Value.oneCell']) (by decide) (by unfold maxLen; omega) (by omega) (by simp; omega) (wr.heap.size + 1) (by simp) ?_; intro g5 c5 w5 hown5 hgrow5 hat5 hlt5)
        go_roundw
        case rel => exact ⟨k + 1, hlt, by go_num, _, _, _, rfl, by rw [htk.out, hf.out]; exact hW.more hown5 hgrow5 rfl⟩
        case measure => simp [intOf]; omega
    · obtain rfl : k = N := by omega
      have z1 : decide ((k : Int) < (k : Int)) = false := by simp
      rw [List.take_of_length_le (by rw [hNl.out]; exact Nat.le_refl _)] at hW
      have hl := hW.len
      subst hl
      go_wp2_with fail
      go_ret
      exact ⟨_, _, rfl, hW⟩
/-- A row of pairs, or nothing. -/
def PRow (w : World) (base : Nat) (a : Option Addr) (n _c : Nat) (xs : List Value) : Prop := n = 0 ∨ ∃ g, a = some ⟨g, 0, none⟩ ∧ Row w base g (n * 2) (n * 2) xs
theorem own_prow {w : World} {base n c : Nat} {a : Option Addr} {xs : List Value} (h : w.ownsRow base 56 2 (.slice a n c) n xs) : PRow w base a n c xs := by
  by_cases hn : n = 0
  · exact .inl hn
  · right
    rcases h.2 with ⟨e, h0⟩ | ⟨g, cap, cur, e, hb, hg, q1, q2, q3, q4⟩
    · omega
    · simp only [Value.slice.injEq, true_and] at e
      obtain ⟨rfl, rfl⟩ := e
      refine ⟨g, rfl, hb, (Array.getElem?_eq_some_iff.1 hg).1, by have := h.1; omega, Nat.le_refl _, fun j hj => ?_, fun j hj => ?_, fun j _ => ?_⟩
      · rw [cell_of_row w g j cur 56 (0, 0) hg, ← q4, List.getElem?_take, if_pos (by omega)]; simp
      · rw [cell_of_row w g j cur 56 (0, 0) hg, Array.getElem?_eq_getElem (by omega)]; rfl
      · rw [World.frozen?, hg]; rfl
theorem retP {fn : Func} {R : Ending → World → Prop} {A : Act} {p : Tmp} {gb : Nat} {n : Int} {a : Option Addr} {m c : Nat} {W : World} (hres : fn.results = #[.cell p 29]) (hp : A.tmps.getD p undef = .pointer (some ⟨gb, 0, none⟩)) (hd : A.defers = []) (hn : W.heap[gb]? = some (.cells #[.int .i64 n, .slice a m c] 29))
    (h : R (.returned (.agg #[.int .i64 n, .slice a m c])) W) : bodyPost Tryz.prog fn R Exit.ret A W := by
  have c0 := Lib.cell_of_heap hn 0
  have c1 := Lib.cell_of_heap hn 1
  have hp' : A.tmps[p]?.getD undef = .pointer (some ⟨gb, 0, none⟩) := by simpa using hp
  refine bodyPost_ret (v := .agg #[.int .i64 n, .slice a m c]) ?_ hd h
  simp [results, hres, go_sem, asAddr, hp', c0, c1]
section
variable {fnd : ByteArray → FN} {hg : ByteArray → ByteArray → Bool} {lo hi : ByteArray}
end
section
variable {w : World} {g8 g12 g16 gz g17 : Nat} {wd : Nat} {a : Option Addr} {n c : Nat} {over under : ByteArray} {cnt : Nat} {gn gr : Nat} {k v l r : ByteArray} {a2 : Option Addr} {rn d2 Qn : Nat} {Qp : List PairT} {W W' : World}
end
section
variable {w : World} {ga gz : Nat} {n : Int} {a : Option Addr} {m c : Nat} {W W' : World}
end

theorem own_parg {w : World} {base c : Nat} {a : Option Addr} {ps : List PairT} (h : w.ownsRow base 56 2 (.slice a ps.length c) ps.length (flatP ps)) (hs : SmallP ps) : PArg a ps w := by
  rcases own_prow h with h0 | ⟨g, rfl, hr⟩
  · exact ⟨hs.1, hs.2, fun q => by omega⟩
  · exact Row.parg hr hs
end Go.Proofs.YtmfhfehemoeeeaaGreatDoor
