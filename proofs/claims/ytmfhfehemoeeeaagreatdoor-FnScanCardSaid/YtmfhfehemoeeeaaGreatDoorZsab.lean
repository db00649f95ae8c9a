import Derived.Test.YtmfhfehemoeeeaaGreatDoorZsaa
import Derived.Deep.AppendLies
import Derived.WalkKit
import Derived.Laws.BytesArg
namespace Go.Proofs.Sha
open Go Go.RowKit

theorem grownBy_refl (w : World) (row : Option Nat) : w.grownBy w row := ⟨rfl, rfl, rfl, Nat.le_refl _, fun _ _ _ => rfl⟩
theorem grownBy_trans {a b c : World} {row : Option Nat} (h : a.grownBy b row) (k : b.grownBy c row) : a.grownBy c row :=
  ⟨k.os.trans h.os, k.tape.trans h.tape, k.output.trans h.output, Nat.le_trans h.size k.size, fun i hi hn => (k.block i (Nat.lt_of_lt_of_le hi h.size) hn).trans (h.block i hi hn)⟩
theorem grownBy_setCell (w : World) (b o : Nat) (v : Value) : w.grownBy (w.setCell ⟨b, o, none⟩ v) (some b) :=
  ⟨rfl, rfl, rfl, by simp [World.setCell], fun k _ hn => Below.heap_setCell _ _ _ _ (fun e => hn (by rw [e]))⟩
theorem grownBy_drew (w : World) (row : Option Nat) : w.grownBy w.drew row := ⟨rfl, rfl, rfl, Nat.le_refl _, fun _ _ _ => rfl⟩
theorem grownBy_drewR {a b : World} {row : Option Nat} (h : a.grownBy b row) : a.grownBy b.drew row := grownBy_trans h (grownBy_drew _ _)
theorem grownBy_allocR {a b : World} {row : Option Nat} (h : a.grownBy b row) (o : Obj) : a.grownBy (b.alloc o) row := grownBy_trans h (World.grownBy_alloc _ _ _)
theorem grownBy_setCells (b : Nat) : ∀ (vs : List Value) (o : Nat) (w : World), w.grownBy (w.setCells b o vs) (some b)
  | [], _, w => grownBy_refl w _
  | v :: r, o, w => by rw [World.setCells]; exact grownBy_trans (grownBy_setCell w b o v) (grownBy_setCells b r (o + 1) _)
/-- Writes into no old row at all are writes into whatever row. -/
theorem grownBy_of_below {w w' : World} (h : Below w.heap.size w w') (row : Option Nat) : w.grownBy w' row := ⟨h.os, h.tape, h.output, h.size, fun k hk _ => h.block k hk⟩
theorem below_of_grown {B b : Nat} {w w' : World} (h : w.grownBy w' (some b)) (hb : B ≤ b) (hB : B ≤ w.heap.size) : Below B w w' :=
  ⟨h.os, h.tape, h.output, h.size, fun k hk => h.block k (by omega) (by simp; omega)⟩

structure Row (w : World) (base g n cap : Nat) (xs : List Value) : Prop where
  ge : base ≤ g
  lt : g < w.heap.size
  len : xs.length = n
  le : n ≤ cap
  cell : ∀ j, j < n → w.cell? ⟨g, j, none⟩ = xs[j]?
  room : ∀ j, j < cap → (w.cell? ⟨g, j, none⟩).isSome = true
  free : ∀ j, j < cap → w.frozen? ⟨g, j, none⟩ = false

theorem Row.kept {w w' : World} {base g n cap : Nat} {xs : List Value} {row : Option Nat} (h : Row w base g n cap xs) (hg : w.grownBy w' row) (hn : some g ≠ row) : Row w' base g n cap xs := by
  have hc : ∀ j, w'.cell? ⟨g, j, none⟩ = w.cell? ⟨g, j, none⟩ := fun j => hg.cell_far _ h.lt hn
  have hf : ∀ j, w'.frozen? ⟨g, j, none⟩ = w.frozen? ⟨g, j, none⟩ := fun j => hg.frozen_far _ h.lt hn
  exact ⟨h.ge, Nat.lt_of_lt_of_le h.lt hg.size, h.len, h.le, fun j hj => (hc j).trans (h.cell j hj), fun j hj => by rw [hc]; exact h.room j hj, fun j hj => by rw [hf]; exact h.free j hj⟩
theorem Row.alloc {w : World} {base g n cap : Nat} {xs : List Value} (h : Row w base g n cap xs) (o : Obj) : Row (w.alloc o) base g n cap xs :=
  h.kept (World.grownBy_alloc w o none) (by simp)
theorem Row.drew {w : World} {base g n cap : Nat} {xs : List Value} (h : Row w base g n cap xs) : Row w.drew base g n cap xs :=
  h.kept (grownBy_drew w none) (by simp)
theorem Row.below {w w' : World} {base g n cap : Nat} {xs : List Value} (h : Row w base g n cap xs) (hb : Below w.heap.size w w') : Row w' base g n cap xs :=
  h.kept (grownBy_of_below hb none) (by simp)
theorem Row.mono {w : World} {base base' g n cap : Nat} {xs : List Value} (h : Row w base g n cap xs) (hb : base' ≤ base) : Row w base' g n cap xs :=
  ⟨Nat.le_trans hb h.ge, h.lt, h.len, h.le, h.cell, h.room, h.free⟩

/-- A row that lies in a block known whole. -/
theorem Row.of_block {w : World} {base g : Nat} {cs : Array Value} {e : TypeId} {fr : Nat × Nat} (hb : base ≤ g) (hg : w.heap[g]? = some (.cells cs e fr)) (n : Nat) (hn : n ≤ cs.size)
    (hf : fr = (0, 0) ∨ fr.1 = cs.size) : Row w base g n cs.size (cs.toList.take n) := by
  have hlt : g < w.heap.size := (Array.getElem?_eq_some_iff.1 hg).1
  have hc : ∀ j, w.cell? ⟨g, j, none⟩ = cs[j]? := fun j => cell_of_row w g j cs e fr hg
  refine ⟨hb, hlt, by simp; omega, hn, fun j hj => ?_, fun j hj => ?_, fun j hj => ?_⟩
  · rw [hc, List.getElem?_take, if_pos hj]; simp
  · rw [hc]; simp [hj]
  · obtain ⟨lo, hi⟩ := fr
    simp only [World.frozen?, hg]
    rcases hf with hf | hf
    · cases hf; simp
    · simp at hf; subst hf; simp; omega

section
variable {P : Program} (w : World)

theorem run_append_row (t ty e : TypeId) (i : TypeInfo) (z : Value) (bytes : Nat) (ht : P.underlying t = some (.slice e)) (hi : P.info? e = some i) (hz : i.zero = some z)
    (hsize : i.size = 1) (hby : i.bytes = bytes) (hzs : z.cells.size = 1)
    (base g n cap : Nat) (xs : List Value) (hr : Row w base g n cap xs)
    (ad : Addr) (m c : Nat) (news : List Value) (hl : news.length = m) (hnews : ∀ j u, news[j]? = some u → w.cell? (ad.add j) = some u) (h1 : ∀ u ∈ news, u.oneCell' = true)
    (h63 : n + m ≤ maxLen) (hbytes : (n + m) * bytes ≤ 140737488355328) (hbase : base ≤ w.heap.size) (H : Nat) (hH : w.heap.size = H) :
    ∃ g' cap' w', (Builtin.append_ #[t, t] ty #[.slice (some ⟨g, 0, none⟩) n cap, .slice (some ad) m c]).run P w = .ok (.slice (some ⟨g', 0, none⟩) (n + m) cap') w' ∧
      Row w' base g' (n + m) cap' (xs ++ news) ∧ w.grownBy w' (some g) ∧ (g' = g ∨ g' = H) ∧ (∀ j, j < n → w'.cell? ⟨g, j, none⟩ = w.cell? ⟨g, j, none⟩) := by
  by_cases hroom : n + m ≤ cap
  · have hrun := run_append_room_cells (P := P) w t ty e i ht hi g 0 n cap ad m c news (by rw [hl, hsize, Nat.mul_one]) hnews h1 hroom
      (fun j hj => by have := hr.room (n + j) (by omega); simpa [hsize] using this) (fun j hj => by have := hr.free (n + j) (by omega); simpa [hsize] using this)
    simp only [hsize, Nat.mul_one, Nat.zero_add] at hrun
    have hin : ∀ j (hj : j < news.length), (w.setCells g n news).cell? ⟨g, n + j, none⟩ = some news[j] := World.cell?_setCells_in g news n w (fun j hj => hr.room (n + j) (by omega))
    have hout : ∀ j, j < n ∨ n + news.length ≤ j → (w.setCells g n news).cell? ⟨g, j, none⟩ = w.cell? ⟨g, j, none⟩ := fun j hj => World.cell?_setCells_out g news n w ⟨g, j, none⟩ (fun _ _ => hj)
    have hgr := grownBy_setCells g news n w
    refine ⟨g, cap, w.setCells g n news, hrun, ⟨hr.ge, Nat.lt_of_lt_of_le hr.lt hgr.size, by rw [List.length_append, hr.len, hl], hroom, ?_, ?_, ?_⟩, hgr, .inl rfl, fun j hj => hout j (.inl hj)⟩
    · intro j hj
      rcases Nat.lt_or_ge j n with h | h
      · rw [hout j (.inl h), hr.cell j h, List.getElem?_append_left (by rw [hr.len]; exact h)]
      · obtain ⟨q, rfl⟩ := Nat.exists_eq_add_of_le h
        rw [hin q (by omega), List.getElem?_append_right (by rw [hr.len]; omega), hr.len, Nat.add_sub_cancel_left, List.getElem?_eq_getElem (by omega)]
    · intro j hj
      rcases Nat.lt_or_ge j n with h | h
      · rw [hout j (.inl h)]; exact hr.room j hj
      · rcases Nat.lt_or_ge j (n + news.length) with h' | h'
        · obtain ⟨q, rfl⟩ := Nat.exists_eq_add_of_le h
          rw [hin q (by omega)]; rfl
        · rw [hout j (.inr h')]; exact hr.room j hj
    · intro j hj
      rw [World.frozen?_setCells]; exact hr.free j hj
  · have holds : ∀ j u, xs[j]? = some u → w.cell? ((⟨g, 0, none⟩ : Addr).add j) = some u := fun j u hu => by
      have hj : j < n := by have := (List.getElem?_eq_some_iff.1 hu).1; have := hr.len; omega
      have hadd : (⟨g, 0, none⟩ : Addr).add j = ⟨g, j, none⟩ := by unfold Addr.add; split <;> simp_all
      rw [hadd, hr.cell j hj, hu]
    have hrun := run_append_grow (P := P) w t ty e i z ht hi hz ⟨g, 0, none⟩ n cap xs (by rw [hr.len, hsize, Nat.mul_one]) holds ad m c news (by rw [hl, hsize, Nat.mul_one]) hnews (by omega) (by simp only [maxLen] at h63; omega) (growslice_fits (by omega) (by rw [hby]; exact hbytes))
    have hge := grownCap_ge w (n + m) cap e
    have hnew : (w.drew.alloc (.cells (xs.toArray ++ news.toArray ++ Builtin.zeroCells z.cells (grownCap w (n + m) cap e - (n + m))) e)).heap[w.heap.size]? = _ := heap_alloc_new w.drew _
    have hgr : w.grownBy (w.drew.alloc (.cells (xs.toArray ++ news.toArray ++ Builtin.zeroCells z.cells (grownCap w (n + m) cap e - (n + m))) e)) (some g) := grownBy_allocR (grownBy_drew w _) _
    have hsz : (xs.toArray ++ news.toArray ++ Builtin.zeroCells z.cells (grownCap w (n + m) cap e - (n + m))).size = grownCap w (n + m) cap e := by
      simp only [Array.size_append, List.size_toArray, size_zeroCells, hzs, hr.len, hl]; omega
    refine ⟨w.heap.size, _, _, hrun, ?_, hgr, .inr hH, fun j hj => World.cell?_of_block (w := w) (heap_alloc_old w.drew _ hr.lt)⟩
    have hrow := Row.of_block hbase hnew (n + m) (by rw [hsz]; exact hge) (.inl rfl)
    rw [hsz] at hrow
    have htk : List.take (n + m) (xs.toArray ++ news.toArray ++ Builtin.zeroCells z.cells (grownCap w (n + m) cap e - (n + m))).toList = xs ++ news := by
      simp only [Array.toList_append, List.append_assoc]
      rw [← List.append_assoc]
      exact List.take_left' (by rw [List.length_append, hr.len, hl])
    rw [htk] at hrow
    exact hrow

theorem wp_append_row {o : Oper} {a : Act} {K : Act → World → Prop} {Q : Exit → Act → World → Prop} (s x : Operand) (t : TypeId)
    (ho : o.op = .call { callee := .builtin .append, args := #[s, x], argTypes := #[t, t] })
    (e : TypeId) (i : TypeInfo) (z : Value) (bytes : Nat) (ht : P.underlying t = some (.slice e)) (hi : P.info? e = some i) (hz : i.zero = some z)
    (hsize : i.size = 1) (hby : i.bytes = bytes) (hzs : z.cells.size = 1)
    (base g n cap : Nat) (xs : List Value) (hs : a.eval s = .slice (some ⟨g, 0, none⟩) n cap) (hr : Row w base g n cap xs)
    (ad : Addr) (m c : Nat) (news : List Value) (hx : a.eval x = .slice (some ad) m c) (hl : news.length = m) (hnews : ∀ j u, news[j]? = some u → w.cell? (ad.add j) = some u) (h1 : ∀ u ∈ news, u.oneCell' = true)
    (h63 : n + m ≤ maxLen) (hbytes : (n + m) * bytes ≤ 140737488355328) (hbase : base ≤ w.heap.size) (H : Nat) (hH : w.heap.size = H)
    (h : ∀ g' cap' w', Row w' base g' (n + m) cap' (xs ++ news) → w.grownBy w' (some g) → (g' = g ∨ g' = H) →
      (∀ j, j < n → w'.cell? ⟨g, j, none⟩ = w.cell? ⟨g, j, none⟩) → K (a.put o.dst (.slice (some ⟨g', 0, none⟩) (n + m) cap')) w') : o.wp P a w K Q := by
  obtain ⟨g', cap', w', hrun, h2, h3, h4, h5⟩ := run_append_row (P := P) w t o.type e i z bytes ht hi hz hsize hby hzs base g n cap xs hr ad m c news hl hnews h1 h63 hbytes hbase H hH
  unfold Oper.wp execOp
  simp only [ho, resolve, invoke, builtin, Sem.run_bind, Sem.run_pure, Result.andThen_ok, List.map_toArray, List.map_cons, List.map_nil, hs, hx, hrun]
  exact h g' cap' w' h2 h3 h4 h5

theorem step_append_row {ops : Array Oper} {o : Oper} {a : Act} {K : Act → World → Prop} {Q : Exit → Act → World → Prop} {E : Prop} (hgd : o.guard = none) (s x : Operand) (t : TypeId)
    (ho : o.op = .call { callee := .builtin .append, args := #[s, x], argTypes := #[t, t] })
    (e : TypeId) (i : TypeInfo) (z : Value) (bytes : Nat) (ht : P.underlying t = some (.slice e)) (hi : P.info? e = some i) (hz : i.zero = some z)
    (hsize : i.size = 1) (hby : i.bytes = bytes) (hzs : z.cells.size = 1)
    (base g n cap : Nat) (xs : List Value) (hs : a.eval s = .slice (some ⟨g, 0, none⟩) n cap) (hr : Row w base g n cap xs)
    (ad : Addr) (m c : Nat) (news : List Value) (hx : a.eval x = .slice (some ad) m c) (hl : news.length = m) (hnews : ∀ j u, news[j]? = some u → w.cell? (ad.add j) = some u) (h1 : ∀ u ∈ news, u.oneCell' = true)
    (h63 : n + m ≤ maxLen) (hbytes : (n + m) * bytes ≤ 140737488355328) (hbase : base ≤ w.heap.size) (H : Nat) (hH : w.heap.size = H)
    (h : ∀ g' cap' w', Row w' base g' (n + m) cap' (xs ++ news) → w.grownBy w' (some g) → (g' = g ∨ g' = H) →
      (∀ j, j < n → w'.cell? ⟨g, j, none⟩ = w.cell? ⟨g, j, none⟩) → K (a.put o.dst (.slice (some ⟨g', 0, none⟩) (n + m) cap')) w') :
    if Region.wanted o (yielded ops a.tmps) = true then Oper.wp P o a w K Q else E := by
  have hw : Region.wanted o (yielded ops a.tmps) = true := by simp [Region.wanted, hgd]
  rw [if_pos hw]
  exact wp_append_row w s x t ho e i z bytes ht hi hz hsize hby hzs base g n cap xs hs hr ad m c news hx hl hnews h1 h63 hbytes hbase H hH h

theorem wpList_append_row {ops : Array Oper} {rest : List Oper} {o : Oper} {a : Act} {Q : Exit → Act → World → Prop} (hgd : o.guard = none) (s x : Operand) (t : TypeId)
    (ho : o.op = .call { callee := .builtin .append, args := #[s, x], argTypes := #[t, t] })
    (e : TypeId) (i : TypeInfo) (z : Value) (bytes : Nat) (ht : P.underlying t = some (.slice e)) (hi : P.info? e = some i) (hz : i.zero = some z)
    (hsize : i.size = 1) (hby : i.bytes = bytes) (hzs : z.cells.size = 1)
    (base g n cap : Nat) (xs : List Value) (hs : a.eval s = .slice (some ⟨g, 0, none⟩) n cap) (hr : Row w base g n cap xs)
    (ad : Addr) (m c : Nat) (news : List Value) (hx : a.eval x = .slice (some ad) m c) (hl : news.length = m) (hnews : ∀ j u, news[j]? = some u → w.cell? (ad.add j) = some u) (h1 : ∀ u ∈ news, u.oneCell' = true)
    (h63 : n + m ≤ maxLen) (hbytes : (n + m) * bytes ≤ 140737488355328) (hbase : base ≤ w.heap.size) (H : Nat) (hH : w.heap.size = H)
    (h : ∀ g' cap' w', Row w' base g' (n + m) cap' (xs ++ news) → w.grownBy w' (some g) → (g' = g ∨ g' = H) →
      (∀ j, j < n → w'.cell? ⟨g, j, none⟩ = w.cell? ⟨g, j, none⟩) → wpList P ops Q rest (a.put o.dst (.slice (some ⟨g', 0, none⟩) (n + m) cap')) w') : wpList P ops Q (o :: rest) a w :=
  wpList_plain hgd fun _ hK => wp_append_row w s x t ho e i z bytes ht hi hz hsize hby hzs base g n cap xs hs hr ad m c news hx hl hnews h1 h63 hbytes hbase H hH fun g' cap' w' h2 h3 h4 h5 => hK _ _ (h g' cap' w' h2 h3 h4 h5)

/-- '[]byte(s)': a new row that holds the string's bytes. -/
theorem wpList_bytes_row {ops : Array Oper} {rest : List Oper} {o : Oper} {a : Act} {Q : Exit → Act → World → Prop} (hgd : o.guard = none) (x : Operand) (src dst e : TypeId)
    (ho : o.op = .convert src dst x) (s : ByteArray) (hs : a.eval x = .string s)
    (h1 : P.underlying src = some .string) (h2 : P.underlying dst = some (.slice e)) (h3 : P.underlying e = some (.int .u8))
    (h : ∀ g cap w', Row w' w.heap.size g s.size cap (s.data.toList.map B) → Below w.heap.size w w' → wpList P ops Q rest (a.put o.dst (.slice (some ⟨g, 0, none⟩) s.size cap)) w') : wpList P ops Q (o :: rest) a w :=
  wpList_plain hgd fun _ hK => by
    have hrun := run_bytes_of_string (P := P) w src dst e s h1 h2 h3
    have hge := grownCap_ge w s.size 0 e
    have hsz : (bytesRow s (grownCap w s.size 0 e)).size = grownCap w s.size 0 e := by
      unfold bytesRow
      rw [Array.size_append, Array.size_map, Array.size_replicate]
      show s.size + _ = _
      omega
    have hnew := heap_alloc_new w.drew (.cells (bytesRow s (grownCap w s.size 0 e)) e ((bytesRow s (grownCap w s.size 0 e)).size, (bytesRow s (grownCap w s.size 0 e)).size + 1))
    have hrow := Row.of_block (base := w.heap.size) (Nat.le_refl _) hnew s.size (by rw [hsz]; exact hge) (.inr rfl)
    have htk : List.take s.size (bytesRow s (grownCap w s.size 0 e)).toList = s.data.toList.map B := by
      unfold bytesRow
      rw [Array.toList_append, Array.toList_map]
      exact List.take_left' (by rw [List.length_map]; rfl)
    rw [htk, hsz] at hrow
    rw [hsz] at hrun
    unfold Oper.wp execOp
    simp only [ho, hs, Sem.run_bind, Sem.run_pure, Result.andThen_ok, hrun]
    exact hK _ _ (h _ _ _ hrow ⟨rfl, rfl, rfl, by simp, fun k hk => Below.heap_alloc w.drew _ k hk⟩)

/-- 'string(b)': the row's bytes. -/
theorem wpList_string_row {ops : Array Oper} {rest : List Oper} {o : Oper} {a : Act} {Q : Exit → Act → World → Prop} (hgd : o.guard = none) (x : Operand) (src dst e : TypeId)
    (ho : o.op = .convert src dst x) (base g n cap : Nat) (l : List UInt8) (hx : a.eval x = .slice (some ⟨g, 0, none⟩) n cap) (hr : Row w base g n cap (l.map B))
    (h1 : P.underlying src = some (.slice e)) (h2 : P.underlying e = some (.int .u8)) (h3 : P.underlying dst = some .string)
    (h : wpList P ops Q rest (a.put o.dst (.string ⟨l.toArray⟩)) w) : wpList P ops Q (o :: rest) a w :=
  wpList_plain hgd fun _ hK => by
    have hl : l.length = n := by have := hr.len; simpa using this
    subst hl
    have hrun := run_convert_bytes_back (P := P) w src dst e ⟨g, 0, none⟩ cap l h1 h2 h3 (fun j hj => by
      have hadd : (⟨g, 0, none⟩ : Addr).add j = ⟨g, j, none⟩ := by unfold Addr.add; split <;> simp_all
      rw [hadd, hr.cell j hj, List.getElem?_map, List.getElem?_eq_getElem hj]; rfl)
    unfold Oper.wp execOp
    simp only [ho, hx, Sem.run_bind, Sem.run_pure, Result.andThen_ok, hrun]
    exact hK _ _ h
end
end Go.Proofs.Sha
namespace Go.Proofs.Sha
open Go Go.RowKit

/-- The state behind q blocks of the text p. -/
def blocks (p : List UInt8) : Nat → List UInt32
  | 0 => hTab
  | q + 1 => comp (blocks p q) (p.drop (64 * q))
def byteAt (x : UInt32) (i : Nat) : UInt8 := UInt8.ofNat (x.toNat / 2 ^ (8 * i))
/-- The bytes of the first k words. -/
def outTo (h : List UInt32) : Nat → List UInt8
  | 0 => []
  | k + 1 => outTo h k ++ [byteAt (h.getD k 0) 3, byteAt (h.getD k 0) 2, byteAt (h.getD k 0) 1, byteAt (h.getD k 0) 0]
theorem outTo_length (h : List UInt32) (k : Nat) : (outTo h k).length = 4 * k := by
  induction k with
  | zero => rfl
  | succ k ih => simp [outTo, ih]; omega

def sha (l : List UInt8) : List UInt8 := outTo (blocks (pad l) ((pad l).length / 64)) 8

theorem pad_mod (l : List UInt8) : (pad l).length % 64 = 0 := by
  rw [pad_length]; have := zpad_eq l.length; omega

theorem byteAt_form (x : UInt32) (i : Nat) : IntKind.u8.wrap ((x.toNat : Int) / 2 ^ (8 * i)) = ((byteAt x i).toNat : Int) := by
  unfold byteAt
  rw [IntKind.wrap_u8', UInt8.toNat_ofNat']
  have e : ((x.toNat / 2 ^ (8 * i) % 2 ^ 8 : Nat) : Int) = ((x.toNat : Int) / 2 ^ (8 * i) % 256) := by
    rw [Int.natCast_emod, Int.natCast_ediv, Int.natCast_pow]; rfl
  exact e.symm
theorem byte3 (x : UInt32) : IntKind.u8.wrap ((x.toNat : Int) / (16777216 : Int)) = ((byteAt x 3).toNat : Int) := byteAt_form x 3
theorem byte2 (x : UInt32) : IntKind.u8.wrap ((x.toNat : Int) / (65536 : Int)) = ((byteAt x 2).toNat : Int) := byteAt_form x 2
theorem byte1 (x : UInt32) : IntKind.u8.wrap ((x.toNat : Int) / (256 : Int)) = ((byteAt x 1).toNat : Int) := byteAt_form x 1
theorem byte0 (x : UInt32) : IntKind.u8.wrap (x.toNat : Int) = ((byteAt x 0).toNat : Int) := by
  have := byteAt_form x 0
  simpa using this

theorem outTo_succ (h : List UInt32) (k : Nat) (x : UInt32) (hx : h.getD k 0 = x) :
    (outTo h (k + 1)).map B = (outTo h k).map B ++ [.int .u8 (IntKind.u8.wrap ((x.toNat : Int) / (16777216 : Int))), .int .u8 (IntKind.u8.wrap ((x.toNat : Int) / (65536 : Int))), .int .u8 (IntKind.u8.wrap ((x.toNat : Int) / (256 : Int))), .int .u8 (IntKind.u8.wrap (x.toNat : Int))] := by
  rw [outTo, hx, List.map_append, byte3, byte2, byte1, byte0]; rfl

theorem tab_cell (L : List UInt32) (j : Nat) (hj : j < L.length) : (L.map U).toArray[j]? = some (.int .u32 ((L.getD j 0).toNat : Int)) := by
  rw [List.getElem?_toArray, List.getElem?_map, List.getD_eq_getElem?_getD, List.getElem?_eq_getElem hj]; rfl
theorem row_b {w : World} {base g n cap : Nat} {L : List UInt8} (h : Row w base g n cap (L.map B)) (j : Nat) (hj : j < n) : w.cell? ⟨g, j, none⟩ = some (.int .u8 ((L.getD j 0).toNat : Int)) := by
  have hL : L.length = n := by have := h.len; simpa using this
  rw [h.cell j hj, List.getElem?_map, List.getD_eq_getElem?_getD, List.getElem?_eq_getElem (by omega)]; rfl
theorem row_u {w : World} {base g n cap : Nat} {L : List UInt32} (h : Row w base g n cap (L.map U)) (j : Nat) (hj : j < n) : w.cell? ⟨g, j, none⟩ = some (.int .u32 ((L.getD j 0).toNat : Int)) := by
  have hL : L.length = n := by have := h.len; simpa using this
  rw [h.cell j hj, List.getElem?_map, List.getD_eq_getElem?_getD, List.getElem?_eq_getElem (by omega)]; rfl
theorem two_blocks (w : World) (L M : List UInt32) (e : TypeId) : 
    (∀ j, j < L.length → ((w.alloc (.cells (L.map U).toArray e)).alloc (.cells (M.map U).toArray e)).cell? ⟨w.heap.size, j, none⟩ = some (.int .u32 ((L.getD j 0).toNat : Int))) ∧
    (∀ j, j < M.length → ((w.alloc (.cells (L.map U).toArray e)).alloc (.cells (M.map U).toArray e)).cell? ⟨w.heap.size + 1, j, none⟩ = some (.int .u32 ((M.getD j 0).toNat : Int))) := by
  constructor
  · intro j hj
    have h1 : ((w.alloc (.cells (L.map U).toArray e)).alloc (.cells (M.map U).toArray e)).heap[w.heap.size]? = some (.cells (L.map U).toArray e) := by
      rw [Below.heap_alloc _ _ _ (by simp)]; exact heap_alloc_new w _
    rw [cell_of_row _ _ _ _ _ _ h1]; exact tab_cell L j hj
  · intro j hj
    rw [cell_of_row _ _ _ _ _ _ (heap_alloc2_new w _ _)]; exact tab_cell M j hj

end Go.Proofs.Sha
