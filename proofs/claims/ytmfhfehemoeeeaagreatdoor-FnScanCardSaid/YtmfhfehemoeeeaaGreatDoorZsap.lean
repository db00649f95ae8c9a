import Derived.Test.YtmfhfehemoeeeaaGreatDoorZsao
import Derived.Test.YtmfhfehemoeeeaaGreatDoorZsan
import Derived.Test.YtmfhfehemoeeeaaGreatDoorZsag
import Derived.Deep.Cut
import Derived.Test.YtmfhfehemoeeeaaGreatDoorZsaf
namespace Go.Proofs.YtmfhfehemoeeeaaGreatDoor
open Go.RowKit Go.Proofs.Sha

theorem Bld.mv {b r : Nat} {l : List UInt8} {w w' : World} {s : ByteArray} {a : Nat} {f : Bool} (h : Bld b l w) (hm : Mv r w w') (hr : Rd r s a f w) : Bld b l w' := by
  have H : ∀ p, Lib.BuilderAtF 106 5 b b p (Lib.byteCells l) w → Lib.BuilderAtF 106 5 b b p (Lib.byteCells l) w' := by
    rintro p ⟨h1, v, h2, h3, h4⟩
    have l2 := (Array.getElem?_eq_some_iff.1 h2).1
    have hbr : b ≠ r := by
      intro e; rw [e] at h2; rw [Rd] at hr; rw [hr] at h2; simp at h2
    refine ⟨h1, v, (hm.block b l2 hbr).trans h2, ⟨h3.1, ?_⟩, h4⟩
    rcases h3.2 with hn | ⟨g, cap, cur, fz, hv, hbg, hg, rest⟩
    · exact .inl hn
    · have hgr : g ≠ r := by
        intro e; rw [e] at hg; rw [Rd] at hr; rw [hr] at hg; simp at hg
      exact .inr ⟨g, cap, cur, fz, hv, hbg, (hm.block g (Array.getElem?_eq_some_iff.1 hg).1 hgr).trans hg, rest⟩
  rcases h with h | h
  · exact .inl (H _ h)
  · exact .inr (H _ h)
theorem Rd.put {b r : Nat} {l : List UInt8} {w w' : World} {s : ByteArray} {a : Nat} {f : Bool} (h : Rd r s a f w) (hp : Put b l w w') (hne : r ≠ b) : Rd r s a f w' := hp.cells h hne (by decide)
theorem Mv.put {b r : Nat} {l : List UInt8} {w w' w'' : World} (h : Mv r w w') (hp : Put b l w' w'') (hb : w.heap.size ≤ b) : Mv r w w'' :=
  ⟨hp.2.1.os.trans h.os, hp.2.1.tape.trans h.tape, hp.2.1.output.trans h.output, Nat.le_trans h.size hp.2.1.size, fun k hk hr => (hp.2.1.block k (by omega)).trans (h.block k hk hr)⟩

theorem secsFor_any (n : Nat) (w : World) (hn : n ≤ 100000) :
    Calls Tryz.prog 140 #[.int .i64 (n : Int)] w fun e w' => e = .returned (.int .i64 (((n + 62) / 63 : Nat) : Int)) ∧ w = w' := by
  go_enter Tryz.func140, Tryz.ntmps140
  go_wp2
  go_ret
  exact ⟨congrArg Ending.returned (congrArg (Value.int .i64) (by omega)), rfl⟩
theorem vsize_any (n : Nat) (w : World) : Calls Tryz.prog 29 #[.int .i64 (n : Int)] w fun e w' => e = .returned (.bool (decide (1 ≤ n ∧ n ≤ 4000))) ∧ w = w' := by
  by_cases h1 : 1 ≤ n
  · by_cases h2 : n ≤ 4000
    · have z1 : decide ((1 : Int) ≤ (n : Int)) = true := by simp; omega
      have z2 : decide ((n : Int) ≤ 4000) = true := by simp; omega
      rw [decide_eq_true ⟨h1, h2⟩]
      go_enter Tryz.func29, Tryz.ntmps29
      go_wp2
      go_ret
      exact ⟨rfl, rfl⟩
    · have z1 : decide ((1 : Int) ≤ (n : Int)) = true := by simp; omega
      have z2 : decide ((n : Int) ≤ 4000) = false := by simp; omega
      rw [decide_eq_false (by omega)]
      go_enter Tryz.func29, Tryz.ntmps29
      go_wp2
      go_ret
      exact ⟨rfl, rfl⟩
  · have z1 : decide ((1 : Int) ≤ (n : Int)) = false := by simp; omega
    rw [decide_eq_false (by omega)]
    go_enter Tryz.func29, Tryz.ntmps29
    go_wp2
    go_ret
    exact ⟨rfl, rfl⟩

theorem num_first {s : ByteArray} {a : Nat} {t1 : ByteArray} {a1 : Nat} {f1 : Bool} {t3 : ByteArray} {a3 : Nat} {f3 : Bool} {N : Nat} (h1 : CX 83 s a false t1 a1 f1) (hf1 : f1 = true → t1 = ⟨#[]⟩) (h3 : NX t1 0 false 4 t3 a3 f3) (hN : N = valTo 4 true (byteAt t3) t3.size) :
    ((a + 64 ≤ s.size ∧ (s.data.toList.getD (a + 63) 0).toNat = 83) → f1 = false ∧ t1 = s.extract a (a + 63) ∧ a1 = a + 64 ∧ N = numAt s a) ∧ (1 ≤ N → a + 64 ≤ s.size ∧ (s.data.toList.getD (a + 63) 0).toNat = 83) := by
  rcases h1 with ⟨_, hle, hmk, ht1, ha1, hf⟩ | ⟨hno, hf⟩
  · refine ⟨fun _ => ⟨hf, ht1, ha1, ?_⟩, fun _ => ⟨hle, hmk⟩⟩
    have hs1 : t1.size = 63 := by rw [ht1]; exact ex_size s a 63 (by omega)
    rcases h3 with ⟨_, _, ht3, _, _⟩ | ⟨g, _⟩
    · rw [hN, ht3, ex_size t1 0 4 (by omega), val4 _ (byteAt_lt _), byteAt_ex t1 0 4 0 (by omega), byteAt_ex t1 0 4 1 (by omega), byteAt_ex t1 0 4 2 (by omega), byteAt_ex t1 0 4 3 (by omega)]
      have hb : ∀ j, j < 63 → (t1.data.toList.getD (0 + j) 0).toNat = (s.data.toList.getD (a + j) 0).toNat := fun j hj => by
        rw [ht1, ex_list, List.getD_eq_getElem?_getD, List.getD_eq_getElem?_getD, List.getElem?_take_of_lt (by omega), List.getElem?_drop, Nat.zero_add]
      rw [hb 0 (by omega), hb 1 (by omega), hb 2 (by omega), hb 3 (by omega)]
      rfl
    · rcases g with g | g
      · cases g
      · omega
  · refine ⟨fun hh => ?_, fun h1 => ?_⟩
    · rcases hno with g | g
      · cases g
      · exact absurd hh g
    · have ht : t1 = ⟨#[]⟩ := hf1 hf
      have ht3 : t3 = ⟨#[]⟩ := by
        rcases h3 with ⟨_, g, _⟩ | ⟨_, g, _⟩
        · rw [ht] at g; exact absurd g (by decide)
        · exact g
      rw [hN, ht3] at h1
      exact absurd h1 (by decide)

/-- What a node record's reading answers and leaves. -/
def NodeR (s : ByteArray) (a : Nat) (k : Int) (enc : ByteArray) (v : Int) (root : ByteArray) (nx : Int) (a' : Nat) (f' : Bool) : Prop :=
  (f' = false ∧ IsNode s a enc ∧ a' = a + 64 * secs enc.size ∧ k = 1 ∧ v = 0 ∧ root = ⟨#[]⟩ ∧ nx = 0) ∨ (f' = true ∧ ∀ enc', ¬ IsNode s a enc')

/-- A record's block. -/
def RB (g : Nat) (k : Int) (enc : ByteArray) (v : Int) (root : ByteArray) (nx : Int) (w : World) : Prop := w.heap[g]? = some (.cells #[.int .i64 k, .string enc, .int .i64 v, .string root, .int .i64 nx] 66)
theorem RB.at {g : Nat} {k : Int} {enc : ByteArray} {v : Int} {root : ByteArray} {nx : Int} {w : World} (h : RB g k enc v root nx w) : RecAt w g k enc v root nx :=
  ⟨Lib.cell_of_heap h 0, Lib.cell_of_heap h 1, Lib.cell_of_heap h 2, Lib.cell_of_heap h 3, Lib.cell_of_heap h 4, frozen_of_heap h, frozen_of_heap h, frozen_of_heap h, frozen_of_heap h, frozen_of_heap h⟩
theorem retRec {fn : Func} {w : World} {g : Nat} {k : Int} {enc : ByteArray} {v : Int} {root : ByteArray} {nx : Int} (hres : fn.results = #[.cell 4 66]) (h : RecAt w g k enc v root nx) {a : Act} {R : Ending → World → Prop} (h4 : a.tmps.getD 4 undef = .pointer (some ⟨g, 0, none⟩)) (hd : a.defers = [])
    (hR : R (.returned (recV k enc v root nx)) w) : bodyPost Tryz.prog fn R .ret a w := by
  obtain ⟨c0, c1, c2, c3, c4, f0, f1, f2, f3, f4⟩ := h
  have h4' : a.tmps[4]?.getD undef = .pointer (some ⟨g, 0, none⟩) := by simpa using h4
  exact bodyPost_ret (v := recV k enc v root nx) (by simp [results, hres, go_sem, h4', asAddr, c0, c1, c2, c3, c4]) hd hR
theorem fin5 {w W : World} {fb g r : Nat} {s : ByteArray} {a : Nat} {f : Bool} (hr : Rd r s a f W) (hm : Mv r w W) (hsz : w.heap.size = fb) (hg : fb ≤ g) (hl : r < fb) (x0 x1 x2 x3 x4 : Value) :
    Rd r s a f (((((W.setCell ⟨g, 0, none⟩ x0).setCell ⟨g, 1, none⟩ x1).setCell ⟨g, 2, none⟩ x2).setCell ⟨g, 3, none⟩ x3).setCell ⟨g, 4, none⟩ x4) ∧
    Mv r w (((((W.setCell ⟨g, 0, none⟩ x0).setCell ⟨g, 1, none⟩ x1).setCell ⟨g, 2, none⟩ x2).setCell ⟨g, 3, none⟩ x3).setCell ⟨g, 4, none⟩ x4) :=
  ⟨((((hr.other (by omega)).other (by omega)).other (by omega)).other (by omega)).other (by omega), ((((hm.other hsz hg).other hsz hg).other hsz hg).other hsz hg).other hsz hg⟩

/-- The sectors behind the first, up to number i, bear their marks. -/
def good (s : ByteArray) (a i : Nat) : Prop := ∀ j, 1 ≤ j → j ≤ i → a + 64 * j + 64 ≤ s.size ∧ (s.data.toList.getD (a + 64 * j + 63) 0).toNat = 77
def MI (s : ByteArray) (a i a' : Nat) (f' : Bool) (l : List UInt8) : Prop :=
  (f' = false ∧ good s a i ∧ a' = a + 64 * (i + 1) ∧ l = unTo s a (i + 1)) ∨ (¬ good s a i ∧ f' = true)
theorem MI.step {s : ByteArray} {a i a' : Nat} {f' : Bool} {l : List UInt8} {t : ByteArray} {a'' : Nat} {f'' : Bool} (h : MI s a i a' f' l) (hc : CX 77 s a' f' t a'' f'') : MI s a (i + 1) a'' f'' (l ++ t.data.toList) := by
  rcases h with ⟨hf, hg, ha, hl⟩ | ⟨hg, hf⟩
  · subst ha
    rcases hc with ⟨_, hle, hmk, ht, ha'', hf''⟩ | ⟨hno, hf''⟩
    · refine .inl ⟨hf'', fun j h1 h2 => ?_, by omega, by rw [unTo, hl, ht]⟩
      by_cases hj : j ≤ i
      · exact hg j h1 hj
      · have : j = i + 1 := by omega
        subst this
        exact ⟨hle, hmk⟩
    · refine .inr ⟨fun hg' => ?_, hf''⟩
      rcases hno with g | g
      · rw [hf] at g; cases g
      · exact g (hg' (i + 1) (by omega) (Nat.le_refl _))
  · refine .inr ⟨fun hg' => hg fun j h1 h2 => hg' j h1 (by omega), ?_⟩
    rcases hc with ⟨g, _⟩ | ⟨_, g⟩
    · rw [hf] at g; cases g
    · exact g
theorem CX.small {mk : Nat} {s : ByteArray} {a : Nat} {f : Bool} {t : ByteArray} {a' : Nat} {f' : Bool} (h : CX mk s a f t a' f') (hf : f' = true → t = ⟨#[]⟩) : t.size ≤ 63 := by
  rcases h with ⟨_, hle, _, ht, _, _⟩ | ⟨_, g⟩
  · rw [ht, ByteArray.size_extract]; omega
  · rw [hf g]; exact Nat.zero_le _

/-- What stands while a node record is read. -/
structure BS (w : World) (fb r b : Nat) (s : ByteArray) (a : Nat) (f : Bool) (l : List UInt8) (W : World) : Prop where
  sz : w.heap.size = fb
  lt : r < fb
  bb : fb + 1 < b
  bld : Bld b l W
  rd : Rd r s a f W
  mv : Mv r w W
  rb : RB (fb + 1) 0 ⟨#[]⟩ 0 ⟨#[]⟩ 0 W
section
variable {w : World} {fb r b : Nat} {s : ByteArray} {a : Nat} {f : Bool} {l : List UInt8} {W W' : World}
theorem BS.below (h : BS w fb r b s a f l W) (hb : Below W.heap.size W W') : BS w fb r b s a f l W' :=
  ⟨h.sz, h.lt, h.bb, h.bld.below hb, h.rd.below hb, h.mv.trans (Mv.of_below r hb), below_cells hb h.rb⟩
theorem BS.put (h : BS w fb r b s a f l W) {l' : List UInt8} (hp : Put b l' W W') : BS w fb r b s a f l' W' :=
  have h1 := h.lt; have h2 := h.bb; have h3 := h.sz
  ⟨h.sz, h.lt, h.bb, hp.1, h.rd.put hp (by omega), h.mv.put hp (by omega), hp.cells h.rb (by omega) (by decide)⟩
theorem BS.move (h : BS w fb r b s a f l W) {a' : Nat} {f' : Bool} (hr : Rd r s a' f' W') (hm : Mv r W W') : BS w fb r b s a' f' l W' :=
  have h1 := h.lt
  ⟨h.sz, h.lt, h.bb, h.bld.mv hm h.rd, hr, h.mv.trans hm, hm.cells h.rb (by omega)⟩
end
theorem un_len (s : ByteArray) (a : Nat) : ∀ q, a + 64 * q ≤ s.size → (unTo s a q).length = 63 * q
  | 0, _ => rfl
  | q + 1, h => by
    rw [unTo, List.length_append, un_len s a q (by omega)]
    show 63 * q + (s.extract (a + 64 * q) (a + 64 * q + 63)).size = _
    rw [ByteArray.size_extract]; omega

theorem seg_add (L : List UInt8) (a m p : Nat) : (L.drop a).take m ++ (L.drop (a + m)).take p = (L.drop a).take (m + p) := by
  rw [List.take_add, List.drop_drop]
theorem seg_two (L : List UInt8) (a : Nat) (h : a + 2 ≤ L.length) : (L.drop a).take 2 = [L.getD a 0, L.getD (a + 1) 0] := by
  rw [List.getD_eq_getElem?_getD, List.getD_eq_getElem?_getD, List.getElem?_eq_getElem (by omega), List.getElem?_eq_getElem (by omega), List.drop_eq_getElem_cons (by omega), List.take_succ_cons, List.drop_eq_getElem_cons (by omega), List.take_succ_cons, List.take_zero]
  rfl
theorem seg_one (L : List UInt8) (a : Nat) (h : a + 1 ≤ L.length) : (L.drop a).take 1 = [L.getD a 0] := by
  rw [List.getD_eq_getElem?_getD, List.getElem?_eq_getElem (by omega), List.drop_eq_getElem_cons (by omega), List.take_succ_cons, List.take_zero]
  rfl
theorem num_ex (s t1 : ByteArray) (a : Nat) (h : a + 4 ≤ s.size) (ht : t1 = s.extract a (a + 4)) : valTo 4 true (byteAt t1) t1.size = numAt s a := by
  rw [ht, ex_size s a 4 h, val4 _ (byteAt_lt _), byteAt_ex s a 4 0 (by omega), byteAt_ex s a 4 1 (by omega), byteAt_ex s a 4 2 (by omega), byteAt_ex s a 4 3 (by omega)]
  rfl
theorem SX4 {s : ByteArray} {a : Nat} {f : Bool} {t : ByteArray} {a' : Nat} {f' : Bool} (h : SX 4 true s a f t a' f') :
    (f = false ∧ a + 4 + numAt s a ≤ s.size ∧ t = s.extract (a + 4) (a + 4 + numAt s a) ∧ a' = a + 4 + numAt s a ∧ f' = false) ∨ ((f = true ∨ ¬ (a + 4 + numAt s a ≤ s.size)) ∧ f' = true) := by
  obtain ⟨t1, a1, f1, h1, h2⟩ := h
  rcases h1 with ⟨hf, hle, ht1, ha1, hf1⟩ | ⟨hf, ht1, ha1, hf1⟩
  · rw [num_ex s t1 a hle ht1] at h2
    subst ha1
    rcases h2 with ⟨_, hle2, ht, ha', hf'⟩ | ⟨hf2, _, _, hf'⟩
    · exact .inl ⟨hf, hle2, ht, ha', hf'⟩
    · refine .inr ⟨.inr fun hp => ?_, hf'⟩
      rcases hf2 with h | h
      · rw [hf1] at h; cases h
      · exact h hp
  · rcases h2 with ⟨hf2, _⟩ | ⟨_, _, _, hf'⟩
    · rw [hf1] at hf2; cases hf2
    · refine .inr ⟨?_, hf'⟩
      rcases hf with h | h
      · exact .inl h
      · exact .inr fun hp => h (by omega)
theorem seg_four (L : List UInt8) (a : Nat) (h : a + 4 ≤ L.length) : (L.drop a).take 4 = [L.getD a 0, L.getD (a + 1) 0, L.getD (a + 2) 0, L.getD (a + 3) 0] := by
  have := seg_add L a 2 2
  rw [← this, seg_two L a (by omega), seg_two L (a + 2) (by omega)]; rfl
theorem four_back (s : ByteArray) (a : Nat) (h : a + 4 ≤ s.size) : four (numAt s a) = (s.data.toList.drop a).take 4 := by
  rw [seg_four _ _ h, four]
  have h0 := (s.data.toList.getD a 0).toNat_lt
  have h1 := (s.data.toList.getD (a + 1) 0).toNat_lt
  have h2 := (s.data.toList.getD (a + 2) 0).toNat_lt
  have h3 := (s.data.toList.getD (a + 3) 0).toNat_lt
  have e0 : numAt s a % 256 = (s.data.toList.getD a 0).toNat := by unfold numAt; omega
  have e1 : numAt s a / 256 % 256 = (s.data.toList.getD (a + 1) 0).toNat := by unfold numAt; omega
  have e2 : numAt s a / 65536 % 256 = (s.data.toList.getD (a + 2) 0).toNat := by unfold numAt; omega
  have e3 : numAt s a / 16777216 % 256 = (s.data.toList.getD (a + 3) 0).toNat := by unfold numAt; omega
  rw [e0, e1, e2, e3]
  simp
theorem zeroT_rep {t : ByteArray} (h : zeroT t = true) : t.data.toList = List.replicate t.size 0 := by
  rw [List.eq_replicate_iff]
  refine ⟨rfl, fun b hb => ?_⟩
  have := List.all_eq_true.1 h b hb
  simpa using this
theorem rep_zeroT (n : Nat) {t : ByteArray} (h : t.data.toList = List.replicate n 0) : zeroT t = true := by
  unfold zeroT; rw [h, List.all_eq_true]
  intro b hb
  rw [List.eq_of_mem_replicate hb]; rfl

/-- A body that is read to its end. -/
theorem PX.yes {S t : ByteArray} {a' : Nat} (h : PX S 0 false t a' false) (ha : a' = S.size) :
    4 + numAt S 0 ≤ S.size ∧ t = S.extract 4 (4 + numAt S 0) ∧ S.data.toList = four (numAt S 0) ++ t.data.toList ++ List.replicate (S.size - (4 + numAt S 0)) 0 := by
  obtain ⟨a1, f1, t2, f2, h1, _, h3, hf⟩ := h
  have hf2 : f2 = false ∧ zeroT t2 = true := by
    cases f2 <;> cases hz : zeroT t2 <;> rw [hz] at hf <;> first | exact ⟨rfl, rfl⟩ | cases hf
  rcases SX4 h1 with ⟨_, hle, ht, ha1, hf1⟩ | ⟨_, hf1⟩
  · rw [Nat.zero_add] at hle ht ha1
    subst ha1
    rcases h3 with ⟨_, hle2, ht2, ha2, _⟩ | ⟨_, _, _, g⟩
    · refine ⟨hle, ht, ?_⟩
      have hz := zeroT_rep hf2.2
      have hg : gap (4 + numAt S 0) = S.size - (4 + numAt S 0) := by omega
      rw [ht2, ex_size S _ _ hle2, hg, ex_list] at hz
      have e0 := four_back S 0 (by omega)
      have hl : S.data.toList.length = S.size := rfl
      rw [e0, ht, ex_list, ← hz, List.drop_zero]
      have e1 := seg_add S.data.toList 0 4 (numAt S 0)
      rw [List.drop_zero, Nat.zero_add] at e1
      rw [e1, List.take_of_length_le (l := List.drop (4 + numAt S 0) S.data.toList) (by rw [List.length_drop]; omega), List.take_append_drop]
    · rw [g] at hf2; cases hf2.1
  · rcases h3 with ⟨g, _⟩ | ⟨_, _, _, g⟩
    · rw [hf1] at g; cases g
    · rw [g] at hf2; cases hf2.1
theorem PX.no {S t : ByteArray} {a' : Nat} {f' : Bool} (h : PX S 0 false t a' f') (N : Nat) (hN : numAt S 0 = N) (R : List UInt8) (hR : R.length = 4 + N) (hS : S.data.toList = R ++ List.replicate (gap (4 + N)) 0) : f' = false ∧ a' = S.size := by
  have hz : S.size = 4 + N + gap (4 + N) := by
    show S.data.toList.length = _
    rw [hS, List.length_append, List.length_replicate, hR]
  obtain ⟨a1, f1, t2, f2, h1, _, h3, hf⟩ := h
  rcases SX4 h1 with ⟨_, hle, ht, ha1, hf1⟩ | ⟨hno, _⟩
  · rw [Nat.zero_add, hN] at ha1
    subst ha1
    rcases h3 with ⟨_, hle2, ht2, ha2, g⟩ | ⟨hno, _⟩
    · refine ⟨?_, by omega⟩
      have : zeroT t2 = true := rep_zeroT (gap (4 + N)) (by
        rw [ht2, ex_list, hS, ← hR, List.drop_left, List.take_of_length_le (by rw [List.length_replicate]; exact Nat.le_refl _)])
      rw [hf, g, this]; rfl
    · rcases hno with g | g
      · rw [hf1] at g; cases g
      · omega
  · rcases hno with g | g
    · cases g
    · rw [hN] at g; omega

theorem un_head (s : ByteArray) (a : Nat) (j : Nat) (hj : j < 63) : ∀ q, a + 64 * (q + 1) ≤ s.size → (unTo s a (q + 1)).getD j 0 = s.data.toList.getD (a + j) 0
  | 0, h => by
    rw [unTo, unTo, List.nil_append, Nat.mul_zero, Nat.add_zero, ex_list, List.getD_eq_getElem?_getD, List.getD_eq_getElem?_getD, List.getElem?_take_of_lt hj, List.getElem?_drop]
  | q + 1, h => by
    rw [unTo, List.getD_eq_getElem?_getD, List.getElem?_append_left (by rw [un_len s a (q + 1) (by omega)]; omega), ← List.getD_eq_getElem?_getD]
    exact un_head s a j hj q (by omega)
theorem un_num (s : ByteArray) (a q : Nat) (hq : 1 ≤ q) (h : a + 64 * q ≤ s.size) : numAt (T (unTo s a q)) 0 = numAt s a := by
  obtain ⟨p, rfl⟩ : ∃ p, q = p + 1 := ⟨q - 1, by omega⟩
  have g := fun j hj => un_head s a j hj p h
  unfold numAt
  rw [T_data, g 0 (by omega), g (0 + 1) (by omega), g (0 + 2) (by omega), g (0 + 3) (by omega)]
  simp only [Nat.zero_add, Nat.add_zero]
theorem un_parts {s : ByteArray} {a : Nat} {L : List UInt8} : ∀ q, a + 64 * q ≤ s.size → unTo s a q = partsTo L q → ∀ j, j < q → (s.extract (a + 64 * j) (a + 64 * j + 63)).data.toList = part63 L (63 * j)
  | 0, _, _, j, hj => by omega
  | q + 1, h, he, j, hj => by
    rw [unTo, partsTo] at he
    have hl : (s.extract (a + 64 * q) (a + 64 * q + 63)).data.toList.length = (part63 L (63 * q)).length := by
      rw [part63_length]; exact ex_size s (a + 64 * q) 63 (by omega)
    have := List.append_inj' he hl
    by_cases hjq : j = q
    · subst hjq; exact this.2
    · exact un_parts q (by omega) this.1 j (by omega)
theorem marked_of {s : ByteArray} {a : Nat} {L : List UInt8} (h0 : s.data.toList.getD (a + 63) 0 = 83) : ∀ q, a + 64 * q ≤ s.size → (∀ j, 1 ≤ j → j < q → s.data.toList.getD (a + 64 * j + 63) 0 = 77) → (∀ j, j < q → (s.extract (a + 64 * j) (a + 64 * j + 63)).data.toList = part63 L (63 * j)) → (s.data.toList.drop a).take (64 * q) = markedTo L [83] [77] q
  | 0, _, _, _ => by rw [Nat.mul_zero, List.take_zero]; rfl
  | q + 1, h, hm, hp => by
    have hl : s.data.toList.length = s.size := rfl
    rw [markedTo, ← marked_of h0 q (by omega) (fun j h1 h2 => hm j h1 (by omega)) (fun j hj => hp j (by omega)), ← hp q (by omega), ex_list, show 64 * (q + 1) = 64 * q + (63 + 1) by omega, ← seg_add, ← seg_add, ← List.append_assoc, seg_one _ _ (by omega)]
    congr 2
    by_cases hq : q = 0
    · subst hq; rw [if_pos rfl, Nat.mul_zero, Nat.add_zero, h0]
    · rw [if_neg hq, hm q (by omega) (by omega)]
theorem marked_marks (L : List UInt8) (c d : UInt8) (j : Nat) : ∀ q, j < q → (markedTo L [c] [d] q).getD (64 * j + 63) 0 = if j = 0 then c else d
  | 0, h => by omega
  | q + 1, h => by
    have hl := markedTo_len1 L c d q
    rw [markedTo, List.append_assoc]
    by_cases hjq : j = q
    · subst hjq
      rw [List.getD_eq_getElem?_getD, List.getElem?_append_right (by omega), List.getElem?_append_right (by rw [part63_length]; omega), hl, part63_length, show 64 * j + 63 - 64 * j - 63 = 0 by omega]
      split <;> rfl
    · rw [List.getD_eq_getElem?_getD, List.getElem?_append_left (by omega), ← List.getD_eq_getElem?_getD]
      exact marked_marks L c d j q (by omega)

theorem node_yes {s : ByteArray} {a N q i a' a2 : Nat} {l : List UInt8} {t : ByteArray} (hq : secs N = q) (hN : N = numAt s a) (h1 : 1 ≤ N) (h2 : N ≤ 4000) (hmk : a + 64 ≤ s.size ∧ (s.data.toList.getD (a + 63) 0).toNat = 83) (hi : i + 1 = q) (hM : MI s a i a' false l) (hP : PX (T l) 0 false t a2 false) (ha2 : a2 = (T l).size) :
    IsNode s a t ∧ a' = a + 64 * secs t.size := by
  rcases hM with ⟨_, hg, ha', hl⟩ | ⟨_, g⟩
  · have hle : a + 64 * q ≤ s.size := by
      by_cases h : i = 0
      · omega
      · have := (hg i (by omega) (Nat.le_refl _)).1; omega
    rw [hi] at hl ha'
    subst hl
    have hq1 : 1 ≤ q := by omega
    have hn : numAt (T (unTo s a q)) 0 = N := by rw [un_num s a q hq1 hle, hN]
    have hsz : (T (unTo s a q)).size = 63 * q := un_len s a q hle
    obtain ⟨p1, p2, p3⟩ := hP.yes ha2
    rw [hn] at p1 p2 p3
    have hts : t.size = N := by rw [p2]; exact ex_size _ 4 N p1
    rw [hsz, T_data] at p3
    have hL : (four N ++ t.data.toList).length = 4 + N := by rw [List.length_append]; show 4 + t.size = _; rw [hts]
    have e : unTo s a q = partsTo (four N ++ t.data.toList) q := by
      rw [partsTo_eq, p3, List.take_of_length_le (by rw [hL]; omega), hL]
    have hx := marked_of (L := four N ++ t.data.toList) (UInt8.toNat.inj (by rw [hmk.2]; rfl)) q hle (fun j h1 h2 => UInt8.toNat.inj (by rw [(hg j h1 (by omega)).2]; rfl)) (un_parts q hle e)
    refine ⟨⟨by omega, by omega, by rw [hts, hq]; exact hle, ?_⟩, by rw [hts, hq]; exact ha'⟩
    rw [nodeRec, if_pos (by omega), marked, secs_eq, hts, hq, ← hx]
    conv => lhs; rw [← T_of s, T_extract, Nat.add_sub_cancel_left]
  · cases g
theorem node_no {s : ByteArray} {a N q i a' a2 : Nat} {f' f2 : Bool} {l : List UInt8} {t : ByteArray} (hq : secs N = q) (hN : N = numAt s a) (hi : i + 1 = q) (hM : MI s a i a' f' l) (hP : PX (T l) 0 false t a2 f2) (hno : ¬ (f' = false ∧ f2 = false ∧ a2 = (T l).size)) (enc : ByteArray) : ¬ IsNode s a enc := by
  intro hE
  have ht := hE.text
  have hn := hE.parts.2.2.1
  have hle := hE.2.2.1
  have hN2 : enc.size = N := by rw [hN, hn]
  rw [hN2, hq] at ht hle
  have hg : good s a i := fun j h1 h2 => by
    refine ⟨by omega, ?_⟩
    rw [Nat.add_assoc a, sub_getD ht (64 * j + 63) (by omega), marked_marks _ _ _ _ _ (by omega), if_neg (by omega)]; rfl
  rcases hM with ⟨hf, _, ha', hl⟩ | ⟨g, _⟩
  · rw [hi] at hl
    have hL : (four N ++ enc.data.toList).length = 4 + N := by rw [List.length_append]; show 4 + enc.size = _; rw [hN2]
    have hgap : 63 * q - (4 + N) = gap (4 + N) := by rw [← hq]; unfold secs gap; omega
    have hq63 : 4 + N ≤ 63 * q := by rw [← hq]; unfold secs; omega
    have e := un_of ht q (Nat.le_refl _)
    rw [partsTo_eq, List.take_of_length_le (by rw [hL]; exact hq63), hL, hgap] at e
    exact hno ⟨hf, hP.no N (by rw [hl, un_num s a q (by omega) hle, hN]) _ hL (by rw [T_data, hl]; exact e)⟩
  · exact g hg
end Go.Proofs.YtmfhfehemoeeeaaGreatDoor
