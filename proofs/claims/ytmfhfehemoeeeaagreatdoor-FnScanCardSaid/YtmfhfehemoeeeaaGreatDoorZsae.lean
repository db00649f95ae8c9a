import Derived.Test.YtmfhfehemoeeeaaGreatDoorZsad
import Derived.Deep.AppendLies
import Derived.Laws.MakeOwn
import Derived.Laws.OwnMore
import Derived.RangeFuncWrites
set_option maxRecDepth 100000
set_option maxHeartbeats 1000000
namespace Go.Proofs.YtmfhfehemoeeeaaGreatDoor
open Go.RowKit Go.Proofs.Sha

theorem own_cells {w : World} {base g n : Nat} {v : Value} {xs : List Value} (h : w.ownsRow base 9 1 v n xs) (hv : v.ownBlock = some g) : base ≤ g ∧ g < w.heap.size ∧ ∃ cur, w.heap[g]? = some (.cells cur 9 (0, 0)) := by
  rcases h.2 with ⟨rfl, _⟩ | ⟨g', cap, cur, rfl, hb, hg, _⟩
  · cases hv
  · obtain rfl : g' = g := Option.some.inj hv
    exact ⟨hb, (Array.getElem?_eq_some_iff.1 hg).1, cur, hg⟩
theorem own_kept {w w' : World} {base n : Nat} {v : Value} {xs : List Value} (h : w.ownsRow base 9 1 v n xs) (hk : ∀ g, v.ownBlock = some g → g < w.heap.size → w'.heap[g]? = w.heap[g]?) : w'.ownsRow base 9 1 v n xs := by
  refine ⟨h.1, ?_⟩
  rcases h.2 with ⟨h1, h2⟩ | ⟨g, cap, cur, hv, hb, hg, rest⟩
  · exact .inl ⟨h1, h2⟩
  · exact .inr ⟨g, cap, cur, hv, hb, (hk g (by rw [hv]; rfl) (Array.getElem?_eq_some_iff.1 hg).1).trans hg, rest⟩
theorem own_sarg {w : World} {base n c : Nat} {a : Option Addr} {ss : List ByteArray} (h : w.ownsRow base 9 1 (.slice a ss.length c) n (ss.map Value.string)) (hl : ss.length ≤ 1048576) (hs : ∀ j, (ss.getD j ⟨#[]⟩).size ≤ 1048576) : SArg a ss w := by
  refine ⟨hl, hs, fun hn => ?_⟩
  rcases h.2 with ⟨e, h0⟩ | ⟨g, cap, cur, e, hb, hg, q1, q2, q3, q4⟩
  · simp only [Value.slice.injEq] at e; omega
  · simp only [Value.slice.injEq] at e
    obtain ⟨rfl, e2, rfl⟩ := e
    refine ⟨g, 0, rfl, (Array.getElem?_eq_some_iff.1 hg).1, fun j hj => ?_⟩
    rw [Nat.zero_add, cell_of_row w g j cur 9 (0, 0) hg]
    have hx : (ss.map Value.string)[j]? = some (.string (ss.getD j ⟨#[]⟩)) := by
      rw [List.getElem?_map, List.getElem?_eq_getElem hj, List.getD_eq_getElem?_getD, List.getElem?_eq_getElem hj]; rfl
    rw [← q4, List.getElem?_take, if_pos (by omega)] at hx
    simpa using hx
theorem wrapI_in (x : Int) (h : -9223372036854775808 ≤ x ∧ x ≤ 9223372036854775807) : IntKind.i64.wrap x = x := by rw [IntKind.wrap_i64]; omega
theorem placesF_app (wd : Nat) (es : List ByteArray) (e : ByteArray) (k : Nat) (hk : k ≤ es.length) : placesF wd (es ++ [e]) k = placesF wd es k := by
  induction k with
  | zero => rfl
  | succ k ih =>
    rw [placesF, placesF, ih (by omega)]
    congr 2
    rw [List.getD_eq_getElem?_getD, List.getD_eq_getElem?_getD, List.getElem?_append_left (by omega)]
theorem placesF_snoc (wd : Nat) (es : List ByteArray) (e : ByteArray) : placesF wd (es ++ [e]) (es ++ [e]).length = addF (placesF wd es es.length) (cutW wd (sha (78 :: e.data.toList))) (es.length : Int) := by
  rw [List.length_append, List.length_singleton, placesF, placesF_app wd es e es.length (Nat.le_refl _)]
  congr 1
  rw [List.getD_eq_getElem?_getD, List.getElem?_append_right (Nat.le_refl _), Nat.sub_self]
  rfl
/-- A stock in its block: the encodings, and the places of their hashes. -/
structure StockAt (sb r base wd : Nat) (es : List ByteArray) (a : Option Addr) (c : Nat) (w : World) : Prop where
  blk : w.heap[sb]? = some (.cells #[.slice a es.length c, .int .i64 (wd : Int), .map (some r)] 97)
  own : w.ownsRow base 9 1 (.slice a es.length c) es.length (es.map Value.string)
  map : MapF (placesF wd es es.length) r w
  hl : sb < base
  hr : r < base
  hne : sb ≠ r
  hb : base ≤ w.heap.size
theorem StockAt.below {sb r base wd : Nat} {es : List ByteArray} {a : Option Addr} {c : Nat} {w w' : World} (h : StockAt sb r base wd es a c w) (hb : Below w.heap.size w w') : StockAt sb r base wd es a c w' := by
  have h1 := h.hl
  have h2 := h.hb
  exact ⟨(hb.block sb (by omega)).trans h.blk, own_kept h.own (fun g _ hg => hb.block g hg), h.map.below hb, h1, h.hr, h.hne, Nat.le_trans h2 hb.size⟩

theorem newStock_any (wd : Nat) (w : World) : Calls Tryz.prog 52 #[.int .i64 (wd : Int)] w fun e w' => ∃ sb r, e = .returned (.pointer (some ⟨sb, 0, none⟩)) ∧ StockAt sb r (sb + 1) wd [] none 0 w' ∧ Below w.heap.size w w' ∧ w.heap.size ≤ r ∧ r < sb := by
  go_enter Tryz.func52, Tryz.ntmps52
  go_wp2_with fail
  refine (newP_any (wd : Int) w).mono ?_
  rintro e w1 ⟨r, rfl, hr, hM, hb⟩
  have hrl : r < w1.heap.size := by
    obtain ⟨es, cl, hg, _, _⟩ := hM.is
    exact (Array.getElem?_eq_some_iff.1 hg).1
  have hbA : Below w1.heap.size w1 (w1.alloc (.cells #[.slice none 0 0, .int .i64 (wd : Int), .map (some r)] 97)) := (Below.refl _ _).alloc (Nat.le_refl _) _
  have nA := heap_alloc_new w1 (.cells #[.slice none 0 0, .int .i64 (wd : Int), .map (some r)] 97)
  go_wp2_with fail
  go_ret
  exact ⟨w1.heap.size, r, rfl, ⟨nA, World.ownsRow_nil _ _ _ _, hM.below hbA, by omega, by omega, by omega, by simp⟩, hb.trans (hbA.mono hb.size), hr, hrl⟩

theorem stockAdd_all {K : World → Prop} (HH : Hid (HashSaid K)) (keep : Hid (∀ w1 w2, K w1 → Below w1.heap.size w1 w2 → K w2)) (sb r base wd : Nat) (es : List ByteArray) (a : Option Addr) (c : Nat) (enc : ByteArray) (w : World) (h : StockAt sb r base wd es a c w) (hK : K w) (hs : enc.size ≤ 1048576) (h1 : wd ≤ 32) (hlen : es.length ≤ 1048576) :
    Calls Tryz.prog 53 #[.pointer (some ⟨sb, 0, none⟩), .string enc] w fun e w' => ∃ a' c', e = .returned (.tuple #[]) ∧ StockAt sb r base wd (es ++ [enc]) a' c' w' ∧ (∀ n, n ≤ sb → n ≤ r → Below n w w') ∧ ∀ q, q < base → q ≠ sb → q ≠ r → w'.heap[q]? = w.heap[q]? := by
  obtain ⟨F, hF⟩ : ∃ F, placesF wd es es.length = F := ⟨_, rfl⟩
  have HF : Hid (placesF wd (es ++ [enc]) (es ++ [enc]).length = addF F (cutW wd (sha (78 :: enc.data.toList))) (es.length : Int)) := by
    show _ = _
    rw [placesF_snoc, hF]
  obtain ⟨i0, hi0, hz0, hz1, hz2⟩ := info_parts info9
  have hM := h.map
  rw [hF] at hM
  obtain ⟨m, hm⟩ : ∃ m, es.length = m := ⟨_, rfl⟩
  have HAdd : Hid (∀ w', Below w.heap.size w w' → Calls Tryz.prog 61 #[.agg #[.int .i64 (wd : Int), .map (some r)], .string enc, .int .i64 (m : Int)] w' fun e w'' => e = .returned (.tuple #[]) ∧ MapF (addF F (cutW wd (sha (78 :: enc.data.toList))) (m : Int)) r w'' ∧ w'.grownBy w'' (some r)) := fun w' hb => add_any HH wd r F enc _ w' (hM.below hb) (keep.out _ _ hK hb) keep hs h1
  have hblk := h.blk
  have hlb := h.hl
  have hrb := h.hr
  have hne := h.hne
  have hbs := h.hb
  have oA := h.own
  rw [hm] at hblk oA hlen
  have HX : Hid (∀ w5 g4 c4, w5.heap[sb]? = some (.cells #[.slice (some ⟨g4, 0, none⟩) (m + 1) c4, .int .i64 (wd : Int), .map (some r)] 97) →
      w5.ownsRow base 9 1 (.slice (some ⟨g4, 0, none⟩) (m + 1) c4) (m + 1) (es.map Value.string ++ [.string enc]) → MapF (addF F (cutW wd (sha (78 :: enc.data.toList))) (m : Int)) r w5 → base ≤ w5.heap.size →
      StockAt sb r base wd (es ++ [enc]) (some ⟨g4, 0, none⟩) c4 w5) := by
    intro w5 g4 c4 q1 q2 q3 q4
    have hl : (es ++ [enc]).length = m + 1 := by rw [List.length_append, hm]; rfl
    refine ⟨by rw [hl]; exact q1, by rw [hl, List.map_append]; exact q2, ?_, hlb, hrb, hne, q4⟩
    rw [HF.out, hm]; exact q3
  generalize addF F (cutW wd (sha (78 :: enc.data.toList))) (m : Int) = G at HX HAdd
  clear HF hM hF HH keep hK hs h1
  have HC : Hid (∀ W : World, W.heap[sb]? = w.heap[sb]? → W.cell? ⟨sb, 0, none⟩ = some (.slice a m c) ∧ W.cell? ⟨sb, 1, none⟩ = some (.int .i64 (wd : Int)) ∧ W.cell? ⟨sb, 2, none⟩ = some (.map (some r))) := fun W hW => by
    have hb := hW.trans hblk
    exact ⟨Lib.cell_of_heap hb 0, Lib.cell_of_heap hb 1, Lib.cell_of_heap hb 2⟩
  have hlt : sb < w.heap.size := by omega
  replace oA : Hid _ := oA
  replace hblk : Hid _ := hblk
  replace hi0 : Hid _ := hi0
  replace hz0 : Hid _ := hz0
  replace hz1 : Hid _ := hz1
  replace hz2 : Hid _ := hz2
  clear h hm
  go_enter Tryz.func53, Tryz.ntmps53
  go_wp2_with fail
  go_region_held3 (fun W => W.cell? ⟨sb, 0, none⟩ = some (.slice a m c) ∧ W.cell? ⟨sb, 1, none⟩ = some (.int .i64 (wd : Int)) ∧ W.cell? ⟨sb, 2, none⟩ = some (.map (some r))) (first | exact HC.out _ rfl | exact HC.out _ hlb1) (first | (go_at_call 61; refine (HAdd.out _ (Below.refl w.heap.size w).drew).mono ?_; rintro e w1 ⟨rfl, hM1, hg1'⟩; have hg1 : w.grownBy w1 (some r) := grownBy_trans (grownBy_of_below (Below.refl w.heap.size w).drew _) hg1'; have hlb1 : w1.heap[sb]? = w.heap[sb]? := hg1.block sb hlt (fun e => hne (Option.some.inj e)); clear hg1'))
  have hb1 := hlb1.trans hblk.out
  have oA1 : w1.ownsRow base 9 1 (.slice a m c) m (es.map Value.string) := own_kept oA.out (fun g hv hg => hg1.block g hg (fun e => by have := Option.some.inj e; have := (own_cells oA.out hv).1; omega))
  have hs1 := hg1.size
  have c3 := Lib.cell_of_heap hb1 0
  have hbA : Below w1.heap.size w1 (w1.alloc (.cells #[.string enc] 9)) := (Below.refl _ _).alloc (Nat.le_refl _) _
  clear HAdd HC
  go_wp2_with (first | (refine wpList_append_lies _ rfl (.tmp 19) (.tmp 21) 27 rfl base 9 i0 (.string ⟨#[]⟩) 1 16 Tryz.underlying27 hi0.out hz0.out hz1.out hz2.out rfl (by decide) _ m (es.map Value.string) rfl (oA1.alloc _) ⟨w1.heap.size, 0, none⟩ 1 1 [.string enc] rfl rfl (World.news_of_block (heap_alloc_new w1 _)) (by simp [Value.oneCell']) (by decide) (by unfold maxLen; omega) (by omega) (by simp; omega) (w1.heap.size + 1) (by simp) ?_; intro g4 c4 w4 hown4 hgrow4 hat4 hlt4; have hb4 := (hgrow4.block sb (by simp; omega) (fun e => by have := (own_cells oA1 e.symm).1; omega)).trans ((hbA.block sb (by omega)).trans hb1); have k3 := Lib.cell_of_heap hb4 0; have f3 : w4.frozen? ⟨sb, 0, none⟩ = false := by rw [World.frozen?, hb4]; rfl))
  go_end0
  obtain ⟨w5, hw5⟩ : ∃ w5, w5 = w4.setCell ⟨sb, 0, none⟩ (.slice (some ⟨g4, 0, none⟩) (m + 1) c4) := ⟨_, rfl⟩
  have hs4 := hgrow4.size
  simp at hs4
  have hg5 := grownBy_setCell w4 sb 0 (.slice (some ⟨g4, 0, none⟩) (m + 1) c4)
  have hs5 := hg5.size
  have hg4b : base ≤ g4 := (own_cells hown4 rfl).1
  rw [← hw5] at hg5 hs5
  refine ⟨some ⟨g4, 0, none⟩, c4, rfl, ?_, ?_, ?_⟩
  · rw [← hw5]
    refine HX.out w5 g4 c4 (by rw [hw5]; exact heap_setCell_same w4 sb 0 _ 97 _ hb4) (own_kept hown4 (fun g hv hg => by have e : g4 = g := Option.some.inj hv; exact hg5.block g hg (fun e' => by have := Option.some.inj e'; omega))) ?_ (by omega)
    have hMa := hM1.below hbA
    have hMb : MapF G r w4 := by
      obtain ⟨es', cl, hh, q1, q2⟩ := hMa.is
      exact ⟨es', cl, (hgrow4.block r (Array.getElem?_eq_some_iff.1 hh).1 (fun e => by have := (own_cells oA1 e.symm).1; omega)).trans hh, q1, q2⟩
    exact hMb.kept hg5 (fun e => hne e.symm)
  · rw [← hw5]
    intro n hn1 hn2
    have b1 : Below n w w1 := below_of_grown hg1 hn2 (by omega)
    have b2 : Below n w1 (w1.alloc (.cells #[.string enc] 9)) := hbA.mono (by omega)
    have b3 : Below n (w1.alloc (.cells #[.string enc] 9)) w4 := ⟨hgrow4.os, hgrow4.tape, hgrow4.output, hgrow4.size, fun k hk => hgrow4.block k (by simp; omega) (fun e => by have := (own_cells oA1 e.symm).1; omega)⟩
    have b4 : Below n w4 w5 := below_of_grown hg5 hn1 (by omega)
    exact ((b1.trans b2).trans b3).trans b4
  · rw [← hw5]
    intro q hq hq1 hq2
    have e1 := hg1.block q (by omega) (fun e => hq2 (Option.some.inj e))
    have e2 := hbA.block q (by omega)
    have e3 := hgrow4.block q (by simp; omega) (fun e => by have := (own_cells oA1 e.symm).1; omega)
    have e4 := hg5.block q (by omega) (fun e => hq1 (Option.some.inj e))
    exact ((e4.trans e3).trans e2).trans e1
theorem stockAdd_any {K : World → Prop} (HH : Hid (HashSaid K)) (keep : Hid (∀ w1 w2, K w1 → Below w1.heap.size w1 w2 → K w2)) (sb r base wd : Nat) (es : List ByteArray) (a : Option Addr) (c : Nat) (enc : ByteArray) (w : World) (h : StockAt sb r base wd es a c w) (hK : K w) (hs : enc.size ≤ 1048576) (h1 : wd ≤ 32) (hlen : es.length ≤ 1048576) :
    Calls Tryz.prog 53 #[.pointer (some ⟨sb, 0, none⟩), .string enc] w fun e w' => ∃ a' c', e = .returned (.tuple #[]) ∧ StockAt sb r base wd (es ++ [enc]) a' c' w' ∧ ∀ n, n ≤ sb → n ≤ r → Below n w w' :=
  (stockAdd_all HH keep sb r base wd es a c enc w h hK hs h1 hlen).mono (by rintro e w' ⟨a', c', he, q1, q2, _⟩; exact ⟨a', c', he, q1, q2⟩)
/-- A record, as it is read. -/
structure RecT where
  k : Int
  enc : ByteArray
  v : Int
  root : ByteArray
  nx : Nat
/-- What the records of a log have said so far. -/
structure SS where
  nodes : List ByteArray
  aside : List ByteArray
  roots : List ByteArray
  fin : Nat
  sec : Nat
def anyHit (wd : Nat) (es : List ByteArray) (root : ByteArray) : Bool := es.any fun e => decide ((sha (78 :: e.data.toList)).take wd = root.data.toList)
def goodC (wd : Nat) (st : SS) (r : RecT) : Bool := decide (r.v = (st.roots.length : Int) + 1) && (decide (r.root.size = 0) || anyHit wd (st.nodes ++ st.aside) r.root)
def stepS (R : Nat → RecT) (wd : Nat) (st : SS) : Option SS :=
  if (R st.sec).k = 1 then some ⟨st.nodes, st.aside ++ [(R st.sec).enc], st.roots, st.fin, (R st.sec).nx⟩
  else if (R st.sec).k = 2 ∧ goodC wd st (R st.sec) = true then some ⟨st.nodes ++ st.aside, [], st.roots ++ [(R st.sec).root], (R st.sec).nx * 64, (R st.sec).nx⟩
  else none
def st0 : SS := ⟨[], [], [], 0, 0⟩
inductive Reach (R : Nat → RecT) (wd : Nat) : SS → Prop where
  | zero : Reach R wd st0
  | step {a b : SS} : Reach R wd a → stepS R wd a = some b → Reach R wd b
def iterS (R : Nat → RecT) (wd : Nat) : Nat → SS
  | 0 => st0
  | n + 1 => match stepS R wd (iterS R wd n) with
    | some s => s
    | none => iterS R wd n
theorem Reach.iter {R : Nat → RecT} {wd : Nat} {a : SS} (h : Reach R wd a) : ∃ n, iterS R wd n = a := by
  induction h with
  | zero => exact ⟨0, rfl⟩
  | step _ hs ih =>
    obtain ⟨n, hn⟩ := ih
    refine ⟨n + 1, ?_⟩
    rw [iterS, hn, hs]
theorem iterS_stay {R : Nat → RecT} {wd n : Nat} (h : stepS R wd (iterS R wd n) = none) (k : Nat) : iterS R wd (n + k) = iterS R wd n := by
  induction k with
  | zero => rfl
  | succ k ih => rw [← Nat.add_assoc, iterS, ih, h]
/-- One end at most. -/
theorem Reach.one {R : Nat → RecT} {wd : Nat} {a b : SS} (ha : Reach R wd a) (hb : Reach R wd b) (ea : stepS R wd a = none) (eb : stepS R wd b = none) : a = b := by
  obtain ⟨m, rfl⟩ := ha.iter
  obtain ⟨n, rfl⟩ := hb.iter
  rcases Nat.le_total m n with h | h
  · obtain ⟨k, rfl⟩ := Nat.exists_eq_add_of_le h
    exact (iterS_stay ea k).symm
  · obtain ⟨k, rfl⟩ := Nat.exists_eq_add_of_le h
    exact iterS_stay eb k
def RecOk (size n : Nat) (r : RecT) : Prop := r.k = 0 ∨ (r.k = 1 ∧ r.enc.size ≤ 4000 ∧ n < r.nx ∧ 64 * r.nx ≤ size) ∨ (r.k = 2 ∧ r.root.size ≤ 32 ∧ n < r.nx ∧ 64 * r.nx ≤ size)
structure SInv (size : Nat) (st : SS) : Prop where
  len : st.nodes.length + st.aside.length + st.roots.length ≤ st.sec
  sec : 64 * st.sec ≤ size
  enc : ∀ e ∈ st.nodes ++ st.aside, e.size ≤ 4000
  root : ∀ e ∈ st.roots, e.size ≤ 32
  fin : st.fin ≤ size
theorem Reach.inv {R : Nat → RecT} {wd size : Nat} (hR : ∀ n, RecOk size n (R n)) {a : SS} (h : Reach R wd a) : SInv size a := by
  induction h with
  | zero => exact ⟨by simp [st0], by simp [st0], by simp [st0], by simp [st0], by simp [st0]⟩
  | @step a b _ hs ih =>
    unfold stepS at hs
    split at hs
    · rename_i hk
      obtain rfl := Option.some.inj hs
      rcases hR a.sec with h0 | ⟨_, h1, h2, h3⟩ | ⟨h0, _⟩
      · omega
      · refine ⟨?_, h3, ?_, ih.root, ih.fin⟩
        · have := ih.len; simp; omega
        · intro e he
          simp only [List.mem_append, List.mem_singleton] at he
          rcases he with he | he | rfl
          · exact ih.enc e (List.mem_append_left _ he)
          · exact ih.enc e (List.mem_append_right _ he)
          · exact h1
      · omega
    · split at hs
      · rename_i hk
        obtain rfl := Option.some.inj hs
        rcases hR a.sec with h0 | ⟨h0, _⟩ | ⟨_, h1, h2, h3⟩
        · omega
        · omega
        · refine ⟨?_, h3, ?_, ?_, ?_⟩
          · have := ih.len; simp; omega
          · intro e he; rw [List.append_nil] at he; exact ih.enc e he
          · intro e he
            simp only [List.mem_append, List.mem_singleton] at he
            rcases he with he | rfl
            · exact ih.root e he
            · exact h1
          · show _ * 64 ≤ size; omega
      · cases hs

theorem firstI_any (p : Nat → Bool) (k : Nat) : (firstI p k).isSome = (List.range k).any p := by
  induction k with
  | zero => rfl
  | succ k ih =>
    rw [firstI, List.range_succ, List.any_append, ← ih]
    cases hf : firstI p k with
    | some i => rfl
    | none =>
      simp only [Option.isSome_none, Bool.false_or, List.any_cons, List.any_nil, Bool.or_false]
      cases hp : p k <;> simp
theorem any_range (es : List ByteArray) (q : ByteArray → Bool) : (List.range es.length).any (fun i => q (es.getD i ⟨#[]⟩)) = es.any q := by
  rw [Bool.eq_iff_iff, List.any_eq_true, List.any_eq_true]
  constructor
  · rintro ⟨i, hi, hq⟩
    have hl := List.mem_range.1 hi
    rw [List.getD_eq_getElem?_getD, List.getElem?_eq_getElem hl] at hq
    exact ⟨es[i], List.getElem_mem hl, hq⟩
  · rintro ⟨e, he, hq⟩
    obtain ⟨i, hl, rfl⟩ := List.getElem_of_mem he
    refine ⟨i, List.mem_range.2 hl, ?_⟩
    rw [List.getD_eq_getElem?_getD, List.getElem?_eq_getElem hl]
    exact hq
/-- What the map finds. -/
theorem find_hit (wd : Nat) (es : List ByteArray) (root : ByteArray) (h1 : wd ≤ 32) (h2 : root.size = wd) : (placesF wd es es.length (cutW wd root.data.toList)).isSome = anyHit wd es root := by
  have e : (fun i => decide (keyW wd (es.getD i ⟨#[]⟩) = cutW wd root.data.toList)) = hitB wd es root := funext fun i => key_hit wd es root h1 h2 i
  have hA : anyHit wd es root = (firstI (hitB wd es root) es.length).isSome := by
    rw [firstI_any]
    exact (any_range es fun x => decide ((sha (78 :: x.data.toList)).take wd = root.data.toList)).symm
  rw [placesF_first, e, hA]
  cases firstI (hitB wd es root) es.length <;> rfl
theorem no_hit (wd : Nat) (es : List ByteArray) (root : ByteArray) (h1 : wd ≤ 32) (h2 : root.size ≠ wd) : anyHit wd es root = false := by
  unfold anyHit
  rw [List.any_eq_false]
  intro e _ hq
  have := congrArg List.length (of_decide_eq_true hq)
  have hs : (sha (78 :: e.data.toList)).length = 32 := by unfold sha; rw [outTo_length]
  rw [List.length_take, hs] at this
  have hr : root.data.toList.length = root.size := rfl
  omega
/-- What is good of a commit, by its parts. -/
theorem goodC_eq (wd : Nat) (st : SS) (r : RecT) (h1 : wd ≤ 32) (es : List ByteArray) (he : st.nodes ++ st.aside = es) : goodC wd st r = (decide (r.v = (st.roots.length : Int) + 1) && (decide (r.root.size = 0) || (decide (r.root.size = wd) && (placesF wd es es.length (cutW wd r.root.data.toList)).isSome))) := by
  unfold goodC
  rw [he]
  by_cases h2 : r.root.size = wd
  · rw [find_hit wd es r.root h1 h2, decide_eq_true h2, Bool.true_and]
  · rw [no_hit wd es r.root h1 h2, decide_eq_false h2, Bool.false_and]
theorem firstI_step_yes {p : Nat → Bool} {k : Nat} (h : firstI p k = none) (h1 : p k = true) : firstI p (k + 1) = some k := by
  rw [firstI, h, h1]; rfl
theorem firstI_up {p : Nat → Bool} {k i : Nat} (h : firstI p k = some i) (m : Nat) : firstI p (k + m) = some i := by
  induction m with
  | zero => exact h
  | succ m ih => rw [← Nat.add_assoc, firstI, ih]
theorem firstI_congr {p q : Nat → Bool} {k : Nat} (h : ∀ j, j < k → p j = q j) : firstI p k = firstI q k := by
  induction k with
  | zero => rfl
  | succ k ih => rw [firstI, firstI, ih (fun j hj => h j (by omega)), h k (Nat.lt_succ_self k)]

theorem wr_in (n : Int) (h : -9223372036854775808 ≤ n ∧ n ≤ 9223372036854775807) : wrap64 n = n := by unfold wrap64; omega
/-- A log's state in its block. -/
structure LogAt (lb r base wd : Nat) (st : SS) (aN : Option Addr) (cN : Nat) (aR : Option Addr) (cR : Nat) (aA : Option Addr) (cA : Nat) (w : World) : Prop where
  blk : w.heap[lb]? = some (.cells #[.slice aN st.nodes.length cN, .slice aR st.roots.length cR, .int .i64 (st.fin : Int), .slice aA st.aside.length cA, .int .i64 (wd : Int), .map (some r)] 76)
  oN : w.ownsRow base 9 1 (.slice aN st.nodes.length cN) st.nodes.length (st.nodes.map Value.string)
  oR : w.ownsRow base 9 1 (.slice aR st.roots.length cR) st.roots.length (st.roots.map Value.string)
  oA : w.ownsRow base 9 1 (.slice aA st.aside.length cA) st.aside.length (st.aside.map Value.string)
  dNR : ∀ g, (Value.slice aN st.nodes.length cN).ownBlock = some g → (Value.slice aR st.roots.length cR).ownBlock ≠ some g
  dNA : ∀ g, (Value.slice aN st.nodes.length cN).ownBlock = some g → (Value.slice aA st.aside.length cA).ownBlock ≠ some g
  dRA : ∀ g, (Value.slice aR st.roots.length cR).ownBlock = some g → (Value.slice aA st.aside.length cA).ownBlock ≠ some g
  zA : st.aside = [] → aA = none ∧ cA = 0
  map : MapF (placesF wd (st.nodes ++ st.aside) (st.nodes ++ st.aside).length) r w
  hl : lb < base
  hr : r < base
  hne : lb ≠ r
  hb : base ≤ w.heap.size
/-- What a step of a log may turn: its block, its map, rows of its own. -/
structure Turn (lb r base : Nat) (w w' : World) : Prop where
  os : w'.os = w.os
  tape : w'.tape = w.tape
  output : w'.output = w.output
  size : w.heap.size ≤ w'.heap.size
  oth : ∀ k, k < base → k ≠ lb → k ≠ r → w'.heap[k]? = w.heap[k]?
  non : ∀ k o, base ≤ k → w.heap[k]? = some o → (∀ cur, o ≠ .cells cur 9 (0, 0)) → w'.heap[k]? = some o
theorem Turn.trans {lb r base : Nat} {a b c : World} (h : Turn lb r base a b) (k : Turn lb r base b c) : Turn lb r base a c :=
  ⟨k.os.trans h.os, k.tape.trans h.tape, k.output.trans h.output, Nat.le_trans h.size k.size, fun i h1 h2 h3 => (k.oth i h1 h2 h3).trans (h.oth i h1 h2 h3), fun i o h1 h2 h3 => k.non i o h1 (h.non i o h1 h2 h3) h3⟩
theorem Turn.of_below {lb r base : Nat} {w w' : World} (h : Below w.heap.size w w') (hb : base ≤ w.heap.size) : Turn lb r base w w' :=
  ⟨h.os, h.tape, h.output, h.size, fun k hk _ _ => h.block k (by omega), fun k o _ hk _ => (h.block k (Array.getElem?_eq_some_iff.1 hk).1).trans hk⟩
/-- A step that turns one block: the log's, the map, or a row of its own. -/
theorem Turn.of_grown {lb r base : Nat} {w w' : World} {row : Option Nat} (hg : w.grownBy w' row) (hb : base ≤ w.heap.size) (h1 : ∀ g, row = some g → g = lb ∨ g = r ∨ base ≤ g) (h2 : ∀ g o, row = some g → base ≤ g → w.heap[g]? = some o → ∃ cur, o = .cells cur 9 (0, 0)) : Turn lb r base w w' := by
  refine ⟨hg.os, hg.tape, hg.output, hg.size, fun k hk n1 n2 => hg.block k (by omega) (fun e => ?_), fun k o hk ho hc => (hg.block k (Array.getElem?_eq_some_iff.1 ho).1 (fun e => ?_)).trans ho⟩
  · rcases h1 k e.symm with h | h | h <;> omega
  · obtain ⟨cur, hcur⟩ := h2 k o e.symm hk ho
    exact hc cur hcur
theorem Turn.setCell {lb r base : Nat} (w : World) (o : Nat) (v : Value) (hb : base ≤ w.heap.size) (hl : lb < base) : Turn lb r base w (w.setCell ⟨lb, o, none⟩ v) :=
  Turn.of_grown (grownBy_setCell w lb o v) hb (fun g e => .inl (Option.some.inj e).symm) (fun g o' e h _ => by exfalso; have := Option.some.inj e; omega)
/-- Whatever leaves the log's block, its map and its rows leaves the log. -/
theorem LogAt.kept {lb r base wd : Nat} {st : SS} {aN : Option Addr} {cN : Nat} {aR : Option Addr} {cR : Nat} {aA : Option Addr} {cA : Nat} {w w' : World} (h : LogAt lb r base wd st aN cN aR cR aA cA w) {row : Option Nat} (hg : w.grownBy w' row)
    (h1 : ∀ g, row = some g → g ≠ lb ∧ g ≠ r) (h2 : ∀ g o, row = some g → base ≤ g → w.heap[g]? = some o → ∀ cur, o ≠ .cells cur 9 (0, 0)) : LogAt lb r base wd st aN cN aR cR aA cA w' := by
  have hrow : ∀ {v : Value} {n : Nat} {xs : List Value}, w.ownsRow base 9 1 v n xs → w'.ownsRow base 9 1 v n xs := fun ho => own_kept ho (fun g hv hlt => hg.block g hlt (fun e => by
    obtain ⟨hb, _, cur, hc⟩ := own_cells ho hv
    exact h2 g _ e.symm hb hc cur rfl))
  have hlt : lb < w.heap.size := Nat.lt_of_lt_of_le h.hl h.hb
  have hrt : r < w.heap.size := Nat.lt_of_lt_of_le h.hr h.hb
  refine ⟨(hg.block lb hlt (fun e => (h1 lb e.symm).1 rfl)).trans h.blk, hrow h.oN, hrow h.oR, hrow h.oA, h.dNR, h.dNA, h.dRA, h.zA, ?_, h.hl, h.hr, h.hne, Nat.le_trans h.hb hg.size⟩
  obtain ⟨es, cl, hh, q1, q2⟩ := h.map.is
  exact ⟨es, cl, (hg.block r hrt (fun e => (h1 r e.symm).2 rfl)).trans hh, q1, q2⟩
theorem LogAt.below {lb r base wd : Nat} {st : SS} {aN : Option Addr} {cN : Nat} {aR : Option Addr} {cR : Nat} {aA : Option Addr} {cA : Nat} {w w' : World} (h : LogAt lb r base wd st aN cN aR cR aA cA w) (hb : Below w.heap.size w w') : LogAt lb r base wd st aN cN aR cR aA cA w' :=
  h.kept (grownBy_of_below hb none) (fun _ e => by cases e) (fun _ _ e => by cases e)
end Go.Proofs.YtmfhfehemoeeeaaGreatDoor
