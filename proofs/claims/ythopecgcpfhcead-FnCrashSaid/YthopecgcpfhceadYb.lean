import Derived.Test.YthopecgcpfhceadYa
namespace Go.Proofs.Sha
open Go Go.RowKit
section
variable {P : Program} (w : World)

theorem zeroCells_byte (q : Nat) : Builtin.zeroCells (Value.int .u8 0).cells q = (List.replicate q (B 0)).toArray := by
  apply Array.ext'
  show (Builtin.zeroCells #[Value.int .u8 0] q).toList = _
  rw [Builtin.zeroCells]
  apply List.ext_getElem
  · simp
  · intro j h1 h2
    simp [B, Nat.mod_one]

/-- 'append(b, make([]byte, q)...)' onto a row that the call owns. -/
theorem run_append_zero_row (t u ty e : TypeId) (i : TypeInfo) (bytes : Nat) (ht : P.underlying t = some (.slice e)) (hu : P.underlying u = some (.int .i64)) (hi : P.info? e = some i) (hz : i.zero = some (.int .u8 0))
    (hsize : i.size = 1) (hby : i.bytes = bytes)
    (base g n cap : Nat) (xs : List Value) (hr : Row w base g n cap xs) (q : Nat)
    (h63 : n + q ≤ 4294967296) (hbytes : (n + q) * bytes ≤ 140737488355328) (hbase : base ≤ w.heap.size) (H : Nat) (hH : w.heap.size = H) :
    ∃ g' cap' w', (Builtin.append_ #[t, u] ty #[.slice (some ⟨g, 0, none⟩) n cap, .int .i64 (q : Int)]).run P w = .ok (.slice (some ⟨g', 0, none⟩) (n + q) cap') w' ∧
      Row w' base g' (n + q) cap' (xs ++ List.replicate q (B 0)) ∧ w.grownBy w' (some g) ∧ (g' = g ∨ g' = H) ∧ (∀ j, j < n → w'.cell? ⟨g, j, none⟩ = w.cell? ⟨g, j, none⟩) := by
  obtain ⟨news, hnd⟩ : ∃ news, List.replicate q (B 0) = news := ⟨_, rfl⟩
  have hl : news.length = q := by rw [← hnd, List.length_replicate]
  have h1 : ∀ u ∈ news, u.oneCell' = true := by rw [← hnd]; intro u hu; rw [List.eq_of_mem_replicate hu]; rfl
  have hzc : Builtin.zeroCells (Value.int .u8 0).cells q = news.toArray := by rw [← hnd]; exact zeroCells_byte q
  have hai : ∀ (m : Int) (W : World), Sem.run P (asIntOf (.int .i64 m)) W = .ok (.i64, m) W := fun _ _ => rfl
  have hwr : IntKind.i64.wrap (q : Int) = (q : Int) := wrap_i64_in _ (by omega) (by omega)
  have hq0 : ¬ ((q : Int) < 0) := by omega
  have hqb : ¬ (281474976710656 < (q : Int) * (i.bytes : Int)) := by
    rw [hby]
    have : q * bytes ≤ (n + q) * bytes := Nat.mul_le_mul_right _ (by omega)
    have h3 : ((q * bytes : Nat) : Int) ≤ 140737488355328 := by omega
    rw [Int.natCast_mul] at h3
    omega
  have hnn : q = 0 → news = [] := fun h => by subst h; rw [← hnd]; rfl
  rw [hnd]
  by_cases hroom : n + q ≤ cap
  · have hrun : (Builtin.append_ #[t, u] ty #[.slice (some ⟨g, 0, none⟩) n cap, .int .i64 (q : Int)]).run P w = .ok (.slice (some ⟨g, 0, none⟩) (n + q) cap) (w.setCells g n news) := by
      have hst := run_storeCells_cells (P := P) g n news 0 w (fun j hj => by have := hr.room (n + j) (by omega); simpa using this) (fun j hj => by have := hr.free (n + j) (by omega); simpa using this) h1
      simp only [Nat.add_zero] at hst
      by_cases hq : q = 0
      · have he := hnn hq
        subst hq
        subst he
        simp [Builtin.append_, run_underlying ht, run_underlying hu, sizeOf, typeInfo, hi, hsize, Addr.add_lit, asInt, hai, storeCells, World.setCells, zeroValue, hz, show IntKind.i64.wrap 0 = 0 from rfl]
        intro hx
        omega
      · simp [Builtin.append_, run_underlying ht, run_underlying hu, sizeOf, typeInfo, hi, hsize, hroom, Addr.add_lit, hst, asInt, hai, hwr, hq0, hqb, hq, zeroValue, hz, hzc]
    have hin : ∀ j (hj : j < news.length), (w.setCells g n news).cell? ⟨g, n + j, none⟩ = some news[j] := World.cell?_setCells_in g news n w (fun j hj => hr.room (n + j) (by omega))
    have hout : ∀ j, j < n ∨ n + news.length ≤ j → (w.setCells g n news).cell? ⟨g, j, none⟩ = w.cell? ⟨g, j, none⟩ := fun j hj => World.cell?_setCells_out g news n w ⟨g, j, none⟩ (fun _ _ => hj)
    have hgr := grownBy_setCells g news n w
    refine ⟨g, cap, w.setCells g n news, hrun, ⟨hr.ge, Nat.lt_of_lt_of_le hr.lt hgr.size, by rw [List.length_append, hr.len, hl], hroom, ?_, ?_, ?_⟩, hgr, .inl rfl, fun j hj => hout j (.inl hj)⟩
    · intro j hj
      rcases Nat.lt_or_ge j n with h | h
      · rw [hout j (.inl h), hr.cell j h, List.getElem?_append_left (by rw [hr.len]; exact h)]
      · obtain ⟨q, rfl⟩ := Nat.exists_eq_add_of_le h
        rw [hin q (by omega), List.getElem?_append_right (by rw [hr.len]; omega), hr.len, Nat.add_sub_cancel_left, List.getElem?_eq_getElem (by omega)]
    · intro j hj
      rcases Nat.lt_or_ge j n with h | h
      · rw [hout j (.inl h)]; exact hr.room j hj
      · rcases Nat.lt_or_ge j (n + news.length) with h' | h'
        · obtain ⟨q, rfl⟩ := Nat.exists_eq_add_of_le h
          rw [hin q (by omega)]; rfl
        · rw [hout j (.inr h')]; exact hr.room j hj
    · intro j hj
      rw [World.frozen?_setCells]; exact hr.free j hj
  · have holds : ∀ j u, xs[j]? = some u → w.cell? ((⟨g, 0, none⟩ : Addr).add j) = some u := fun j u hu => by
      have hj : j < n := by have := (List.getElem?_eq_some_iff.1 hu).1; have := hr.len; omega
      have hadd : (⟨g, 0, none⟩ : Addr).add j = ⟨g, j, none⟩ := by unfold Addr.add; split <;> simp_all
      rw [hadd, hr.cell j hj, hu]
    have hq : q ≠ 0 := by have := hr.le; omega
    have hrun : (Builtin.append_ #[t, u] ty #[.slice (some ⟨g, 0, none⟩) n cap, .int .i64 (q : Int)]).run P w = .ok (.slice (some ⟨w.heap.size, 0, none⟩) (n + q) (grownCap w (n + q) cap e)) (w.drew.alloc (.cells (xs.toArray ++ news.toArray ++ Builtin.zeroCells (Value.int .u8 0).cells (grownCap w (n + q) cap e - (n + q))) e)) := by
      have hn : ¬ (n + q ≤ cap) := hroom
      have h63' : ¬ (9223372036854775807 < ((n : Int) + (q : Int))) := by omega
      have hfit := growslice_fits (need := n + q) (old := cap) (bytes := i.bytes) (by omega) (by rw [hby]; exact hbytes)
      have h48' : ¬ (281474976710656 < Builtin.nextslicecap (n + q) cap * i.bytes) := by omega
      have hfo := run_firstCells_some (P := P) w.drew i.size n ⟨g, 0, none⟩ n cap xs (by rw [hr.len, hsize, Nat.mul_one]) (by simpa using holds)
      rw [hsize] at hfo
      simp [Builtin.append_, run_underlying ht, run_underlying hu, sizeOf, typeInfo, zeroValue, hi, hz, hsize, hn, h63', h48', Question.forced, hfo, newRow, grownCap, asInt, hai, hwr, hq0, hqb, hq, hzc]
      congr 2
      apply Array.ext'
      simp [List.append_assoc]
    have hge := grownCap_ge w (n + q) cap e
    have hnew : (w.drew.alloc (.cells (xs.toArray ++ news.toArray ++ Builtin.zeroCells (Value.int .u8 0).cells (grownCap w (n + q) cap e - (n + q))) e)).heap[w.heap.size]? = _ := heap_alloc_new w.drew _
    have hgr : w.grownBy (w.drew.alloc (.cells (xs.toArray ++ news.toArray ++ Builtin.zeroCells (Value.int .u8 0).cells (grownCap w (n + q) cap e - (n + q))) e)) (some g) := grownBy_allocR (grownBy_drew w _) _
    have hsz : (xs.toArray ++ news.toArray ++ Builtin.zeroCells (Value.int .u8 0).cells (grownCap w (n + q) cap e - (n + q))).size = grownCap w (n + q) cap e := by
      simp only [Array.size_append, List.size_toArray, size_zeroCells, hr.len, hl]
      show n + q + _ * 1 = _
      omega
    refine ⟨w.heap.size, _, _, hrun, ?_, hgr, .inr hH, fun j hj => World.cell?_of_block (w := w) (heap_alloc_old w.drew _ hr.lt)⟩
    have hrow := Row.of_block hbase hnew (n + q) (by rw [hsz]; exact hge) (.inl rfl)
    rw [hsz] at hrow
    have htk : List.take (n + q) (xs.toArray ++ news.toArray ++ Builtin.zeroCells (Value.int .u8 0).cells (grownCap w (n + q) cap e - (n + q))).toList = xs ++ news := by
      simp only [Array.toList_append, List.append_assoc]
      rw [← List.append_assoc]
      exact List.take_left' (by rw [List.length_append, hr.len, hl])
    rw [htk] at hrow
    exact hrow

theorem wpList_append_zero {ops : Array Oper} {rest : List Oper} {o : Oper} {a : Act} {Q : Exit → Act → World → Prop} (hgd : o.guard = none) (sl x : Operand) (t u : TypeId)
    (ho : o.op = .call { callee := .builtin .append, args := #[sl, x], argTypes := #[t, u] })
    (e : TypeId) (i : TypeInfo) (bytes : Nat) (ht : P.underlying t = some (.slice e)) (hu : P.underlying u = some (.int .i64)) (hi : P.info? e = some i) (hz : i.zero = some (.int .u8 0))
    (hsize : i.size = 1) (hby : i.bytes = bytes)
    (base g n cap : Nat) (xs : List Value) (hs : a.eval sl = .slice (some ⟨g, 0, none⟩) n cap) (hr : Row w base g n cap xs)
    (q : Nat) (hx : a.eval x = .int .i64 (q : Int))
    (h63 : n + q ≤ 4294967296) (hbytes : (n + q) * bytes ≤ 140737488355328) (hbase : base ≤ w.heap.size) (H : Nat) (hH : w.heap.size = H)
    (h : ∀ g' cap' w', Row w' base g' (n + q) cap' (xs ++ List.replicate q (B 0)) → w.grownBy w' (some g) → (g' = g ∨ g' = H) →
      (∀ j, j < n → w'.cell? ⟨g, j, none⟩ = w.cell? ⟨g, j, none⟩) → wpList P ops Q rest (a.put o.dst (.slice (some ⟨g', 0, none⟩) (n + q) cap')) w') : wpList P ops Q (o :: rest) a w :=
  wpList_plain hgd fun _ hK => by
    obtain ⟨g', cap', w', hrun, h2, h3, h4, h5⟩ := run_append_zero_row (P := P) w t u o.type e i bytes ht hu hi hz hsize hby base g n cap xs hr q h63 hbytes hbase H hH
    unfold Oper.wp execOp
    simp only [ho, resolve, invoke, builtin, Sem.run_bind, Sem.run_pure, Result.andThen_ok, List.map_toArray, List.map_cons, List.map_nil, hs, hx, hrun]
    exact hK _ _ (h g' cap' w' h2 h3 h4 h5)
end
end Go.Proofs.Sha
