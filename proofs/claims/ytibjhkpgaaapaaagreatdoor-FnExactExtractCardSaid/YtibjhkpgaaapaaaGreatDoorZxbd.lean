import Derived.Test.YtibjhkpgaaapaaaGreatDoorZxba
import Derived.Test.YtibjhkpgaaapaaaGreatDoorZxbc
import Derived.Test.YtibjhkpgaaapaaaGreatDoorZxam
namespace Go.Proofs.YtibjhkpgaaapaaaGreatDoor
open Go.RowKit Go.Proofs.Sha

section
variable {fnd : ByteArray → FN} {hg : ByteArray → ByteArray → Bool} {lo hi : ByteArray}
theorem goF_len : ∀ (f : Nat) (hash over under par : ByteArray) (cnt : Nat), (goF fnd hg lo hi f hash over under par cnt).1 = 0 → cnt + (goF fnd hg lo hi f hash over under par cnt).2.2.length ≤ (goF fnd hg lo hi f hash over under par cnt).2.1
  | 0, _, _, _, _, _, h => by rw [goF] at h; exact absurd h (by decide)
  | f + 1, hash, over, under, par, cnt, h => by
    cases h1 : (emp hash || !canW over under lo hi) with
    | true => rw [goF_skip h1]; exact Nat.le_refl _
    | false =>
      by_cases h2 : (fnd hash).2 = 2
      · rw [goF_missing h1 h2] at h; exact absurd h (by decide)
      · by_cases h20 : (fnd hash).2 = 0
        · cases h3 : (insW over under (fnd hash).1.1 && parW hg par (fnd hash).1.1) with
          | false => rw [goF_place h1 h20 h3] at h; exact absurd h (by decide)
          | true =>
            by_cases h4 : 500 < cnt + 1
            · rw [goF_many h1 h20 h3 h4] at h; exact absurd h (by decide)
            · have e : fnd hash = (((fnd hash).1.1, (fnd hash).1.2.1, (fnd hash).1.2.2.1, (fnd hash).1.2.2.2), 0) := by rw [← h20]
              rw [goF_node h1 e h3 (by omega) rfl rfl] at h ⊢
              have il := goF_len f (fnd hash).1.2.2.1 over (fnd hash).1.1 (fnd hash).1.1 (cnt + 1)
              split at h
              · rename_i q; exact absurd h q
              · rename_i q
                have il := il (by simpa using q)
                split at h
                · rename_i q2; exact absurd h q2
                · rename_i q2
                  have ir := goF_len f (fnd hash).1.2.2.2 (fnd hash).1.1 under (fnd hash).1.1 _ (by simpa using q2)
                  rw [if_neg q, if_neg q2]
                  simp only [List.length_append]
                  have : (if hasW lo hi (fnd hash).1.1 = true then [((fnd hash).1.1, (fnd hash).1.2.1)] else []).length ≤ 1 := by split <;> simp
                  omega
        · rw [goF, if_neg (by rw [h1]; decide), if_neg h2, if_pos h20] at h; exact absurd h (by decide)
end
/-- What stands while the pairs are put together. -/
structure OS (w : World) (g8 g12 g16 gz g17 : Nat) (wd : Nat) (a : Option Addr) (n c : Nat) (over under : ByteArray) (cnt : Nat) (gn gr : Nat) (k v l r : ByteArray) (a2 : Option Addr) (rn d2 Qn : Nat) (Qp : List PairT) (W : World) : Prop where
  gs : GS w g8 g12 g16 gz g17 wd a n c over under cnt W
  nn : W.heap[gn]? = some (.cells #[.string k, .string v, .string l, .string r] 73)
  rr : W.heap[gr]? = some (.cells #[.slice a2 rn d2, .int .i64 (Qn : Int), .int .i64 0] 158)
  ln : g17 < gn
  lr : g17 < gr
  row : W.ownsRow w.heap.size 81 2 (.slice a2 rn d2) rn (flatP Qp)
section
variable {w : World} {g8 g12 g16 gz g17 : Nat} {wd : Nat} {a : Option Addr} {n c : Nat} {over under : ByteArray} {cnt : Nat} {gn gr : Nat} {k v l r : ByteArray} {a2 : Option Addr} {rn d2 Qn : Nat} {Qp : List PairT} {W W' : World}
theorem OS.below (h : OS w g8 g12 g16 gz g17 wd a n c over under cnt gn gr k v l r a2 rn d2 Qn Qp W) (hb : Below W.heap.size W W') : OS w g8 g12 g16 gz g17 wd a n c over under cnt gn gr k v l r a2 rn d2 Qn Qp W' :=
  ⟨h.gs.below hb, (hb.block _ (Array.getElem?_eq_some_iff.1 h.nn).1).trans h.nn, (hb.block _ (Array.getElem?_eq_some_iff.1 h.rr).1).trans h.rr, h.ln, h.lr, own2_kept h.row (fun q _ hq => hb.block q hq)⟩
/-- A row that is not one of these. -/
def Far (g17 gn gr : Nat) (a2 : Option Addr) (rn d2 : Nat) (x : Value) : Prop := ∀ q, x.ownBlock = some q → g17 < q ∧ q ≠ gn ∧ q ≠ gr ∧ (Value.slice a2 rn d2).ownBlock ≠ some q
theorem OS.grown {x : Value} (h : OS w g8 g12 g16 gz g17 wd a n c over under cnt gn gr k v l r a2 rn d2 Qn Qp W) (hg : W.grownBy W' x.ownBlock) (hf : Far g17 gn gr a2 rn d2 x) : OS w g8 g12 g16 gz g17 wd a n c over under cnt gn gr k v l r a2 rn d2 Qn Qp W' := by
  have l := h.gs.lt
  have h1 := h.gs.o1
  have h2 := h.gs.o2
  have h3 := h.gs.o3
  have h4 := h.gs.o4
  have h5 := h.gs.sz
  have far : ∀ q, q ≤ g17 → q < W.heap.size → W'.heap[q]? = W.heap[q]? := fun q hq hl => hg.block q hl (fun e => by have := (hf q e.symm).1; omega)
  refine ⟨⟨h.gs.sz, h1, h2, h3, h4, ?_, (far _ (by omega) (by omega)).trans h.gs.n8, (far _ (by omega) (by omega)).trans h.gs.n12, (far _ (by omega) (by omega)).trans h.gs.n16, (far _ (by omega) (by omega)).trans h.gs.nz, (far _ (by omega) (by omega)).trans h.gs.n17⟩, ?_, ?_, h.ln, h.lr, ?_⟩
  · exact ⟨hg.os.trans h.gs.bl.os, hg.tape.trans h.gs.bl.tape, hg.output.trans h.gs.bl.output, Nat.le_trans h.gs.bl.size hg.size, fun q hq => (far q (by omega) (Nat.lt_of_lt_of_le hq h.gs.bl.size)).trans (h.gs.bl.block q hq)⟩
  · exact (hg.block gn (Array.getElem?_eq_some_iff.1 h.nn).1 (fun e => (hf gn e.symm).2.1 rfl)).trans h.nn
  · exact (hg.block gr (Array.getElem?_eq_some_iff.1 h.rr).1 (fun e => (hf gr e.symm).2.2.1 rfl)).trans h.rr
  · exact own2_kept h.row (fun q hv hq => hg.block q hq (fun e => (hf q e.symm).2.2.2 hv))
theorem OS.pair (h : OS w g8 g12 g16 gz g17 wd a n c over under cnt gn gr k v l r a2 rn d2 Qn Qp W) (hl : Qp.length = rn) (j : Nat) (hj : j < rn) : ∃ b, a2 = some ⟨b, 0, none⟩ ∧ W.cell? ⟨b, j * 2, none⟩ = some (.string (Qp.getD j noPair).1) ∧ W.cell? ⟨b, j * 2 + 1, none⟩ = some (.string (Qp.getD j noPair).2) := by
  rcases h.row.2 with ⟨e, h0⟩ | ⟨b, cap', cur, e, hb, hg, q1, q2, q3, q4⟩
  · omega
  · simp only [Value.slice.injEq] at e
    obtain ⟨rfl, _, _⟩ := e
    obtain ⟨e0, e1⟩ := flatP_get Qp j (by omega)
    rw [← q4] at e0 e1
    rw [List.getElem?_take, if_pos (by omega)] at e0 e1
    exact ⟨b, rfl, (Lib.cell_of_heap hg _).trans (by simpa using e0), (Lib.cell_of_heap hg _).trans (by simpa using e1)⟩
/-- The row that is put together. -/
structure OutAt (w : World) (g8 g12 g16 gz g17 : Nat) (wd : Nat) (a : Option Addr) (n c : Nat) (over under : ByteArray) (cnt : Nat) (gn gr : Nat) (k v l r : ByteArray) (a2 : Option Addr) (rn d2 Qn : Nat) (Qp : List PairT) (x : Value) (m : Nat) (xs : List PairT) (W : World) : Prop where
  os : OS w g8 g12 g16 gz g17 wd a n c over under cnt gn gr k v l r a2 rn d2 Qn Qp W
  own : W.ownsRow w.heap.size 81 2 x m (flatP xs)
  far : Far g17 gn gr a2 rn d2 x
  len : xs.length = m
theorem OutAt.below {x : Value} {m : Nat} {xs : List PairT} (h : OutAt w g8 g12 g16 gz g17 wd a n c over under cnt gn gr k v l r a2 rn d2 Qn Qp x m xs W) (hb : Below W.heap.size W W') : OutAt w g8 g12 g16 gz g17 wd a n c over under cnt gn gr k v l r a2 rn d2 Qn Qp x m xs W' :=
  ⟨h.os.below hb, own2_kept h.own (fun q _ hq => hb.block q hq), h.far, h.len⟩
/-- One more pair, behind what the row had. -/
theorem OutAt.more {x : Value} {m m' g cap : Nat} {xs : List PairT} {y : PairT} {o : Obj} (h : OutAt w g8 g12 g16 gz g17 wd a n c over under cnt gn gr k v l r a2 rn d2 Qn Qp x m xs W)
    (hown : W'.ownsRow w.heap.size 81 2 (.slice (some ⟨g, 0, none⟩) m' cap) m' (flatP xs ++ [.string y.1, .string y.2])) (hgrow : (W.alloc o).grownBy W' x.ownBlock) (hat : x.ownBlock = some g ∨ g = W.heap.size + 1) (hm : m' = m + 1) : OutAt w g8 g12 g16 gz g17 wd a n c over under cnt gn gr k v l r a2 rn d2 Qn Qp (.slice (some ⟨g, 0, none⟩) m' cap) m' (xs ++ [y]) W' := by
  have ha := h.below ((Below.refl W.heap.size W).alloc (Nat.le_refl _) o)
  refine ⟨ha.os.grown hgrow h.far, by rw [flatP_app]; exact hown, fun q hq => ?_, by rw [List.length_append, h.len, hm]; rfl⟩
  obtain rfl : g = q := Option.some.inj hq
  rcases hat with e | e
  · exact h.far g e
  · have l1 := h.os.gs.lt
    have l2 := (Array.getElem?_eq_some_iff.1 h.os.nn).1
    have l3 := (Array.getElem?_eq_some_iff.1 h.os.rr).1
    refine ⟨by omega, by omega, by omega, fun e2 => ?_⟩
    have := (own2_cells h.os.row e2).2.1
    omega
theorem OutAt.fin {a' : Option Addr} {m d' : Nat} {xs : List PairT} {R : Int × Nat × List PairT} {A : Act} (h : OutAt w g8 g12 g16 gz g17 wd a n c over under cnt gn gr k v l r a2 rn d2 Qn Qp (.slice a' m d') m xs W) (hR : R = (0, Qn, xs)) (hp : A.tmps.getD 16 undef = .pointer (some ⟨g16, 0, none⟩)) (hd : A.defers = []) :
    bodyPost Tryz.prog Tryz.f105 (GoPost R w) .ret A (((W.setCell ⟨g16, 0, none⟩ (.slice a' m d')).setCell ⟨g16, 1, none⟩ (.int .i64 (Qn : Int))).setCell ⟨g16, 2, none⟩ (.int .i64 0)) := by
  obtain ⟨h1, h2, h3⟩ := h.os.gs.fin (.slice a' m d') (.int .i64 (Qn : Int)) (.int .i64 0)
  subst hR
  have q4 := h.os.gs.o3
  have q5 := h.os.gs.o4
  refine retG hp hd h1 ⟨fun _ => ⟨a', d', by rw [h.len], ?_⟩, fun hne => absurd rfl hne, h2⟩
  rw [h.len]
  exact own2_kept h.own (fun q hv _ => h3 q (by have := (h.far q hv).1; omega))
end
end Go.Proofs.YtibjhkpgaaapaaaGreatDoor
namespace Go.Proofs.YtibjhkpgaaapaaaGreatDoor
open Go.RowKit Go.Proofs.Sha

theorem codeF_zero {fnd : ByteArray → FN} {hash over under pk : ByteArray} {cnt : Nat} (h : codeF fnd hash over under pk cnt = 0) : (fnd hash).2 = 0 ∧ (insW over under (fnd hash).1.1 && parW hgW pk (fnd hash).1.1) = true ∧ cnt ≤ 500 := by
  unfold codeF at h
  split at h
  · exact absurd h (by decide)
  · split at h
    · exact absurd h (by decide)
    · rename_i h2
      split at h
      · exact absurd h (by decide)
      · rename_i h3
        split at h
        · exact absurd h (by decide)
        · rename_i h4
          exact ⟨by simpa using h2, by simpa using h3, by omega⟩
theorem goF_code {fnd : ByteArray → FN} {lo hi : ByteArray} {f : Nat} {hash over under pk : ByteArray} {cnt : Nat} (h : (emp hash || !canW over under lo hi) = false) (hc : codeF fnd hash over under pk (cnt + 1) ≠ 0) : goF fnd hgW lo hi (f + 1) hash over under pk cnt = (codeF fnd hash over under pk (cnt + 1), 0, []) := by
  rw [goF, if_neg (by rw [h]; decide)]
  unfold codeF at hc ⊢
  split
  · rfl
  · rename_i h1
    rw [if_neg h1] at hc
    split
    · rfl
    · rename_i h2
      rw [if_neg h2] at hc
      split
      · rfl
      · rename_i h3
        rw [if_neg h3] at hc
        split
        · rfl
        · rename_i h4
          rw [if_neg h4] at hc
          exact absurd rfl hc
/-- What a walk leaves. -/
def WPost (base lb sb c : Nat) (ps : List PairT) (N : Nat → Prop) (w : World) (R : Int × Nat × List PairT) (e : Ending) (w' : World) : Prop :=
  e = .returned (.bool (decide (R.1 = 0))) ∧ Fr base N w w' ∧ (R.1 = 0 → LD lb sb R.2.1 0 w' ∧ ∃ a' cap', LS c base (ps ++ R.2.2) a' cap' w') ∧ (R.1 ≠ 0 → ∃ m, LD lb sb m R.1 w')
/-- The two function values of a walk. -/
abbrev intoV (lo hi : ByteArray) : Value := .func (.func 109) #[.agg #[.string lo, .string hi]] #[]
abbrev atV (xl xa : Nat) : Value := .func (.func 149) #[] #[.pointer (some ⟨xl, 0, none⟩), .pointer (some ⟨xa, 0, none⟩)]
def NWk (p : Option Addr) (lb c q : Nat) : Prop := (∃ a, p = some a ∧ q = a.block) ∨ q = lb ∨ q = c
set_option maxRecDepth 100000 in
set_option maxHeartbeats 1000000 in
theorem walk_none (base lb sb c xl xa : Nat) (lo hi over under pk : ByteArray) (f : Nat) (fnd : ByteArray → FN) (cnt : Nat) (ps : List PairT) (a : Option Addr) (cap : Nat) (hash : ByteArray) (he : emp hash = true) (w : World) (hL : LD lb sb cnt 0 w) (hS : LS c base ps a cap w) :
    Calls Tryz.prog 147 #[.pointer none, intoV lo hi, atV xl xa] w (WPost base lb sb c ps (NWk none lb c) w (goF fnd hgW lo hi (f + 1) hash over under pk cnt)) := by
  rw [goF_skip (by rw [he]; rfl)]
  have HI := goInto_none lo hi w
  have HP : Hid (∀ w', Below w.heap.size w w' → WPost base lb sb c ps (NWk none lb c) w (0, cnt, []) (.returned (.bool true)) w') := fun w' hb => ⟨rfl, Fr.of_below hb, fun _ => ⟨hL.below hb, a, cap, by rw [List.append_nil]; exact hS.below hb⟩, fun h => absurd rfl h⟩
  clear hL hS
  go_enter Tryz.func147, Tryz.ntmps147
  go_wp2_with (first | (go_at_call 109; refine HI.mono ?_; rintro e w2 ⟨rfl, hb2⟩))
  go_ret
  exact HP.out _ hb2
set_option maxRecDepth 100000 in
set_option maxHeartbeats 1000000 in
theorem walk_cut (base lb sb c xl xa b : Nat) (lo hi over under pk : ByteArray) (par : Option Addr) (f : Nat) (fnd : ByteArray → FN) (cnt : Nat) (ps : List PairT) (a : Option Addr) (cap : Nat) (hash : ByteArray) (hc : canW over under lo hi = false) (w : World) (hB : BR b hash over under par w) (hL : LD lb sb cnt 0 w) (hS : LS c base ps a cap w) :
    Calls Tryz.prog 147 #[.pointer (some ⟨b, 0, none⟩), intoV lo hi, atV xl xa] w (WPost base lb sb c ps (NWk (some ⟨b, 0, none⟩) lb c) w (goF fnd hgW lo hi (f + 1) hash over under pk cnt)) := by
  rw [goF_skip (by rw [hc]; simp)]
  have HI := goInto_some lo hi b hash over under par w hB
  rw [hc] at HI
  have HP : Hid (∀ w', Below w.heap.size w w' → WPost base lb sb c ps (NWk (some ⟨b, 0, none⟩) lb c) w (0, cnt, []) (.returned (.bool true)) w') := fun w' hb => ⟨rfl, Fr.of_below hb, fun _ => ⟨hL.below hb, a, cap, by rw [List.append_nil]; exact hS.below hb⟩, fun h => absurd rfl h⟩
  clear hL hS hB hc
  go_enter Tryz.func147, Tryz.ntmps147
  go_wp2_with (first | (go_at_call 109; refine HI.mono ?_; rintro e w2 ⟨rfl, hb2⟩))
  go_ret
  exact HP.out _ hb2
/-- The node with its right subtree. -/
structure RightAt (base b : Nat) (w0 : World) (hash over under : ByteArray) (par : Option Addr) (k v l r : ByteArray) (pl pr : Option Addr) (gr : Nat) (w : World) : Prop where
  bf : BF b hash over under par k v l r pl pr w
  lk : LinkAt r k under (some ⟨gr, 0, none⟩) pr w
  rk : RKb gr k w
  hp : ∀ q, pr = some q → base ≤ q.block ∧ w0.heap.size ≤ q.block
/-- Its left subtree. -/
structure LeftAt (base : Nat) (w0 : World) (over k l : ByteArray) (pl pr : Option Addr) (gl : Nat) (w : World) : Prop where
  lk : LinkAt l over k (some ⟨gl, 0, none⟩) pl w
  rk : RKb gl k w
  hp : ∀ q, pl = some q → base ≤ q.block ∧ w0.heap.size ≤ q.block
  ne : ∀ q q', pl = some q → pr = some q' → q.block ≠ q'.block
section
variable {wg : World} {B0 base lb sb c gb xl xa : Nat} {lo hi : ByteArray} {b : Nat} {w0 w w' : World} {cnt : Nat} {ps : List PairT} {hash over under : ByteArray} {par : Option Addr} {k v l r : ByteArray} {pl pr : Option Addr} {gl gr : Nat}
theorem RightAt.below (h : RightAt base b w0 hash over under par k v l r pl pr gr w) (hb : Below w.heap.size w w') : RightAt base b w0 hash over under par k v l r pl pr gr w' :=
  ⟨(hb.block b (Array.getElem?_eq_some_iff.1 h.bf).1).trans h.bf, h.lk.below hb, h.rk.below hb, h.hp⟩
theorem LeftAt.below (h : LeftAt base w0 over k l pl pr gl w) (hb : Below w.heap.size w w') : LeftAt base w0 over k l pl pr gl w' := ⟨h.lk.below hb, h.rk.below hb, h.hp, h.ne⟩
end
theorem LS.fr {c base : Nat} {ps : List PairT} {a : Option Addr} {cap : Nat} {N : Nat → Prop} {w w' : World} (h : LS c base ps a cap w) (f : Fr w.heap.size N w w') (hN : ∀ q, N q → ∃ cs t, w.heap[q]? = some (.cells cs t) ∧ t ≠ 35 ∧ t ≠ 81) : LS c base ps a cap w' := by
  refine ⟨f.keep h.blk (fun x => ?_) (.inl (by decide)), own2_kept h.own (fun g hv hg => f.block g hg (fun x => ?_) (fun x => by omega)), Nat.le_trans h.hb f.size⟩
  · obtain ⟨cs, t, h1, h2, h3⟩ := hN _ x
    exact ne_of_type h.blk h1 (fun e => h2 e.symm) rfl
  · obtain ⟨cs, t, h1, h2, h3⟩ := hN _ x
    obtain ⟨_, _, cur, h4⟩ := own2_cells h.own hv
    exact ne_of_type h4 h1 (fun e => h3 e.symm) rfl
end Go.Proofs.YtibjhkpgaaapaaaGreatDoor
namespace Go.Proofs.YtibjhkpgaaapaaaGreatDoor
open Go.RowKit Go.Proofs.Sha

end Go.Proofs.YtibjhkpgaaapaaaGreatDoor
namespace Go.Proofs.YtibjhkpgaaapaaaGreatDoor
open Go.RowKit Go.Proofs.Sha

/-- What the specification's Digest says, by itself. -/
def DigSaid : Prop := ∀ (t : ByteArray) (k : Nat) (w : World), t.size ≤ 1048576 → 1 ≤ k → k ≤ 32 → Calls Tryz.prog 23 #[.string t, .int .i64 (k : Int)] w fun e w' => e = .returned (.string ⟨((sha t.data.toList).take k).toArray⟩) ∧ Below w.heap.size w w'
/-- A node's hash, at a width. -/
def hashT (wd : Nat) (s : ByteArray) : ByteArray := ⟨((sha (78 :: s.data.toList)).take wd).toArray⟩
theorem info9 : (Tryz.prog.info? 9).map (fun i => (i.zero, i.size, i.bytes)) = some (some (.string ⟨#[]⟩), 1, 16) := by kernel_rfl
theorem ltext_any (e : ByteArray) (w : World) (he : e.size ≤ 1048575) :
    Calls Tryz.prog 39 #[.string e] w fun x w' => ∃ t : ByteArray, x = .returned (.string t) ∧ t.size ≤ 1048576 ∧ Hid (t.data.toList = 78 :: e.data.toList) ∧ w = w' := by
  have z : ¬ (9223372036854775807 < (⟨#[78]⟩ : ByteArray).size + e.size) := by show ¬ _ < 1 + e.size; omega
  have z' : ¬ (9223372036854775807 < 1 + e.size) := by omega
  go_enter Tryz.func39, Tryz.ntmps39
  go_wp2
  go_ret
  refine ⟨_, rfl, ?_, ?_, rfl⟩
  · rw [ByteArray.size_append]; show 1 + e.size ≤ _; omega
  · show (_ : List UInt8) = _
    rw [ByteArray.data_append]
    simp

/-- A call whose argument is a pool. -/
structure P1 (w : World) (ga : Nat) (n : Int) (a : Option Addr) (m c : Nat) (W : World) : Prop where
  sz : w.heap.size = ga
  bl : Below ga w W
  na : W.heap[ga]? = some (.cells #[.int .i64 n, .slice a m c] 31)
section
variable {w : World} {ga : Nat} {n : Int} {a : Option Addr} {m c : Nat} {W W' : World}
theorem P1.mk0 (w : World) (n : Int) (a : Option Addr) (m c : Nat) : P1 w w.heap.size n a m c (w.alloc (.cells #[.int .i64 n, .slice a m c] 31)) :=
  ⟨rfl, (Below.refl _ w).alloc (Nat.le_refl _) _, heap_alloc_new w _⟩
theorem P1.belowAt (h : P1 w ga n a m c W) {k : Nat} (hk : ga < k) (hb : Below k W W') : P1 w ga n a m c W' :=
  ⟨h.sz, h.bl.trans (hb.mono (by omega)), (hb.block ga hk).trans h.na⟩
theorem P1.lt (h : P1 w ga n a m c W) : ga < W.heap.size := (Array.getElem?_eq_some_iff.1 h.na).1
theorem P1.below (h : P1 w ga n a m c W) (hb : Below W.heap.size W W') : P1 w ga n a m c W' := h.belowAt h.lt hb
theorem P1.grown (h : P1 w ga n a m c W) {g : Nat} (hg : W.grownBy W' (some g)) (hl : ga < g) : P1 w ga n a m c W' := h.belowAt (Nat.lt_succ_self ga) (below_of_grown hg hl h.lt)
theorem P1.bw (h : P1 w ga n a m c W) : Below w.heap.size w W := by rw [h.sz]; exact h.bl
end

set_option maxRecDepth 100000 in
set_option maxHeartbeats 2000000 in
theorem hashes_any (HD : Hid DigSaid) (wd : Nat) (a : Option Addr) (ss : List ByteArray) (c : Nat) (w : World) (h : SArg a ss w) (hq : Hid (∀ j, (ss.getD j ⟨#[]⟩).size ≤ 1048575)) (h1 : 1 ≤ wd) (h2 : wd ≤ 32) :
    Calls Tryz.prog 50 #[.agg #[.int .i64 (wd : Int), .slice a ss.length c]] w fun e w' => ∃ g c', e = .returned (.slice (some ⟨g, 0, none⟩) ss.length c') ∧ Row w' (w.heap.size + 1) g ss.length c' ((ss.map (hashT wd)).map Value.string) ∧ Below w.heap.size w w' := by
  have hn := h.le
  obtain ⟨i0, hi0, hz0, hz1, hz2⟩ := info_parts info9
  obtain ⟨N, hN⟩ : ∃ N, ss.length = N := ⟨_, rfl⟩
  rw [hN] at hn
  rw [hN]
  have hrow0 : Row ((w.alloc (.cells #[.int .i64 (wd : Int), .slice a N c] 31)).alloc (.cells #[] 9)) (w.heap.size + 1) (w.heap.size + 1) 0 0 [] := by
    have := Row.of_block (base := w.heap.size + 1) (g := w.heap.size + 1) (Nat.le_refl _) (by have := heap_alloc_new (w.alloc (.cells #[.int .i64 (wd : Int), .slice a N c] 31)) (.cells #[] 9); rw [World.size_alloc] at this; exact this) 0 (Nat.zero_le _) (.inl rfl)
    simpa using this
  have hS0 := (P1.mk0 w (wd : Int) a N c).below ((Below.refl _ _).alloc (Nat.le_refl _) (.cells #[] 9))
  go_enter Tryz.func50, Tryz.ntmps50
  go_wp2_with fail
  obtain ⟨ga, hga⟩ : ∃ ga, w.heap.size = ga := ⟨_, rfl⟩
  generalize (w.alloc (.cells #[.int .i64 (wd : Int), .slice a N c] 31)).alloc (.cells #[] 9) = W0 at hrow0 hS0 ⊢
  rw [hga] at hrow0 hS0 ⊢
  go_loopw [3, 4] (fun t3 t4 wr => ∃ k g c' : Nat, k ≤ N ∧ t4 = .int .i64 (k : Int) ∧ t3 = .slice (some ⟨g, 0, none⟩) k c' ∧ Row wr (ga + 1) g k c' (((ss.take k).map (hashT wd)).map Value.string) ∧ P1 w ga (wd : Int) a N c wr) (fun _ t4 _ => N - (intOf t4).toNat)
  case atStart => exact ⟨0, ga + 1, 0, Nat.zero_le _, rfl, rfl, hrow0, hS0⟩
  case round =>
    clear hrow0 hS0
    obtain ⟨k, g, c', hk, rfl, rfl, hrow, hS⟩ := hrel
    have d0 := Lib.cell_of_heap hS.na 0
    have d1 := Lib.cell_of_heap hS.na 1
    by_cases hlt : k < N
    · have z1 : decide ((k : Int) < (N : Int)) = true := by simp; omega
      obtain ⟨b, off, rfl, hbl, hcs⟩ := h.at_ (by omega)
      obtain ⟨s, hs⟩ : ∃ s, ss.getD k ⟨#[]⟩ = s := ⟨_, rfl⟩
      have hsz : s.size ≤ 1048575 := by rw [← hs]; exact hq.out k
      have hc0 := hcs k (by omega)
      rw [hs] at hc0
      have hC : Hid (∀ W, P1 w ga (wd : Int) (some ⟨b, off, none⟩) N c W → W.cell? ⟨ga, 1, none⟩ = some (.slice (some ⟨b, off, none⟩) N c) ∧ W.cell? ⟨b, off + k, none⟩ = some (.string s) ∧ W.cell? ⟨ga, 0, none⟩ = some (.int .i64 (wd : Int))) := fun W hW => ⟨Lib.cell_of_heap hW.na 1, (hW.bw.cell hbl).trans hc0, Lib.cell_of_heap hW.na 0⟩
      have hcx := (hS.bw.cell hbl).trans hc0
      obtain ⟨X, hX⟩ : ∃ X, hashT wd s = X := ⟨_, rfl⟩
      have HX : Hid (∀ (t : ByteArray) w', t.size ≤ 1048576 → Hid (t.data.toList = 78 :: s.data.toList) → Calls Tryz.prog 23 #[.string t, .int .i64 (wd : Int)] w' fun e w'' => e = .returned (.string X) ∧ Below w'.heap.size w' w'') := fun t w' ht HT => by
        have := HD.out t wd w' ht h1 h2
        rw [HT.out] at this
        rw [← hX]
        exact this
      have hstep : Hid (((ss.take (k + 1)).map (hashT wd)).map Value.string = ((ss.take k).map (hashT wd)).map Value.string ++ [.string X]) := by
        have hkl : k < ss.length := by omega
        have hge : ss[k] = s := by rw [← hs, List.getD_eq_getElem?_getD, List.getElem?_eq_getElem hkl]; rfl
        show _ = _
        rw [List.take_succ_eq_append_getElem hkl, List.map_append, List.map_append, hge, ← hX]
        rfl
      have hgl := hrow.ge
      have hsl := hS.lt
      have hx0 : (0 : Int) ≤ (k : Int) := Int.natCast_nonneg _
      have hx1 : (k : Int) < (N : Int) := by omega
      clear hcs hs hc0 hX
      generalize ((ss.take k).map (hashT wd)).map Value.string = L at hrow hstep
      go_wp2_with fail
      go_region_held3 (fun w' => w'.cell? ⟨ga, 1, none⟩ = some (.slice (some ⟨b, off, none⟩) N c) ∧ w'.cell? ⟨b, off + k, none⟩ = some (.string s) ∧ w'.cell? ⟨ga, 0, none⟩ = some (.int .i64 (wd : Int))) (first | exact ⟨d1, hcx, d0⟩ | exact hC.out _ hS4 | exact hC.out _ hS3 | exact hC.out _ hS2) (first | (go_at_call 39; refine (ltext_any s _ hsz).mono ?_; rintro e w1 ⟨t, rfl, ht, HT, rfl⟩) | (go_at_call 23; refine (HX.out t _ ht HT).mono ?_; rintro e w2 ⟨rfl, hb2⟩; have hbx : Below wr.heap.size wr w2 := (Below.refl wr.heap.size wr).drew.trans hb2; have hS2 := hS.below hbx; have hrow2 := hrow.below hbx; have hS3 := hS2.below ((Below.refl _ w2).alloc (Nat.le_refl _) (.cells #[.string X] 9)); have hsz2 := hbx.size; clear hb2) | (refine step_append_row _ (by rfl) (.tmp 13) (.tmp 23) 25 (by rfl) 9 i0 (.string ⟨#[]⟩) 16 Tryz.underlying25 hi0 hz0 hz1 hz2 (by rfl) (ga + 1) g k c' _ (by rfl) (hrow2.alloc _) ⟨w2.heap.size, 0, none⟩ 1 1 [.string X] (by rfl) rfl (World.news_of_block (heap_alloc_new w2 _)) (by simp [Value.oneCell']) (by unfold maxLen; omega) (by omega) (by simp; omega) (w2.heap.size + 1) (by simp) ?_; intro g4 c4 w4 hrow4 hgrow4 hg4 hkeep4; have hS4 := hS3.grown hgrow4 hgl))
      go_wp2_with fail
      go_roundw
      case rel => exact ⟨k + 1, g4, c4, hlt, by go_num, rfl, by rw [hstep.out]; exact hrow4, hS4⟩
      case measure => simp [intOf]; omega
    · obtain rfl : k = N := by omega
      have z1 : decide ((k : Int) < (k : Int)) = false := by simp
      have htk : ss.take k = ss := List.take_of_length_le (by omega)
      rw [htk] at hrow
      go_wp2_with fail
      go_ret
      exact ⟨g, c', rfl, by rw [hga]; exact hrow, hS.bw⟩
end Go.Proofs.YtibjhkpgaaapaaaGreatDoor
