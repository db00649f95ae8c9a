import Derived.Test.YtibjhkpgaaapaaaGreatDoorZgab
import Derived.Test.YtibjhkpgaaapaaaGreatDoorZgac
import Derived.Deep.MidRow
import Derived.Great.Walk
set_option maxRecDepth 100000
set_option maxHeartbeats 800000
namespace Go.Proofs.YtibjhkpgaaapaaaGreatDoor
open Go.RowKit Go.Proofs.Sha

theorem spec_any (s : ByteArray) (w : World) (hs : s.size ≤ 1048576) :
    Calls Tryz.prog 64 #[.string s] w fun e w' => e = .returned (.string ⟨(sha s.data.toList).toArray⟩) ∧ Below w.heap.size w w' := by
  obtain ⟨i0, hi0, hz0, hz1, hz2⟩ := info_parts info5
  have hsl : s.data.toList.length = s.size := rfl
  go_enter Tryz.func64, Tryz.ntmps64
  go_wp2_with fail
  refine (tab_any _).mono ?_
  rintro e w2 ⟨rfl, rfl⟩
  go_wp2_with fail
  refine (padded_any s _ hs).mono ?_
  rintro e w3 ⟨mb, mc, rfl, hrow, hbel⟩
  have hplen := pad_length s.data.toList
  have hpmod := pad_mod s.data.toList
  have hz := zpad_lt s.data.toList.length
  have htwo := two_blocks w hTab kTab 177
  have hcm := fun j hj => row_b hrow j hj
  have hmb := hrow.lt
  have hA : ∀ j, j < 8 → w3.cell? ⟨w.heap.size, j, none⟩ = some (.int .u32 ((hTab.getD j 0).toNat : Int)) := fun j hj => (hbel.cell (by simp; omega)).trans (htwo.1 j hj)
  have hK : ∀ j, j < 64 → w3.cell? ⟨w.heap.size + 1, j, none⟩ = some (.int .u32 ((kTab.getD j 0).toNat : Int)) := fun j hj => (hbel.cell (by simp)).trans (htwo.2 j hj)
  have hsz3 : w.heap.size + 2 ≤ w3.heap.size := by have := hbel.size; simpa using this
  have hbel3 : Below w.heap.size w w3 := (((Below.refl _ _).alloc (Nat.le_refl _) _).alloc (by simp) _).trans (hbel.mono (by simp; omega))
  clear htwo hbel hrow
  obtain ⟨p, hp⟩ : ∃ p, pad s.data.toList = p := ⟨_, rfl⟩
  rw [hp] at hplen hpmod hcm
  rw [hp]
  have HP : Hid (pad s.data.toList = p) := hp
  clear hp
  have hp2 : p.length ≤ 2000000 := by omega
  clear hplen hz
  have HM : Hid (∀ j, j < p.length → w3.cell? ⟨mb, j, none⟩ = some (.int .u8 ((p.getD j 0).toNat : Int))) := hcm
  have HK : Hid (∀ j, j < 64 → w3.cell? ⟨w.heap.size + 1, j, none⟩ = some (.int .u32 ((kTab.getD j 0).toNat : Int))) := hK
  clear hcm hK
  go_wp2_with fail
  go_loopw [3, 6] (fun v i wr => ∃ q g fr : Nat, fr ≤ p.length ∧ Hid (fr = 64 * q) ∧ i = .int .i64 (fr : Int) ∧ v = .slice (some ⟨g, 0, none⟩) 8 8 ∧ (∀ j, j < 8 → wr.cell? ⟨g, j, none⟩ = some (.int .u32 (((blocks p q).getD j 0).toNat : Int))) ∧ Below w3.heap.size w3 wr) (fun _ i _ => p.length - (intOf i).toNat)
  case atStart => exact ⟨0, w.heap.size, 0, by omega, rfl, rfl, rfl, hA, Below.refl _ _⟩
  case round =>
    clear hA
    obtain ⟨q, g, fr, hq, HQ, rfl, rfl, hcg, hb⟩ := hrel
    have hsr := hb.size
    have hgl : g < wr.heap.size := World.block_lt_of_cell? wr _ (hcg 0 (by omega))
    have HG : Hid (∀ j, j < 8 → wr.cell? ⟨g, j, none⟩ = some (.int .u32 (((blocks p q).getD j 0).toNat : Int))) := hcg
    clear hcg
    by_cases hlt : fr < p.length
    · have hfr : fr + 64 ≤ p.length := by have := HQ.out; omega
      go_wp2_with fail
      refine (block_any (blocks p q) g 8 (w.heap.size + 1) 64 p mb mc fr wr hp2 hfr (fun j hj => (hb.cell hmb).trans (HM.out j hj)) HG.out (fun j hj => (hb.cell (by exact hsz3)).trans (HK.out j hj))).mono ?_
      rintro e w4 ⟨g', rfl, hrow', hb'⟩
      go_wp2_with fail
      go_roundw
      case rel =>
        refine ⟨q + 1, g', fr + 64, by omega, ?_, by go_num, rfl, ?_, hb.trans (hb'.mono hsr)⟩
        · have := HQ.out; show fr + 64 = 64 * (q + 1); omega
        · intro j hj
          rw [blocks, ← HQ.out]; exact row_u hrow' j hj
      case measure => simp [intOf]; omega
    · obtain rfl : fr = p.length := by omega
      have HF : Hid (sha s.data.toList = outTo (blocks p q) 8) := by
        show sha s.data.toList = _
        unfold sha
        rw [HP.out, HQ.out]
        congr 2; omega
      have hbw : Below w.heap.size w wr := hbel3.trans (hb.mono (by omega))
      clear HM HK HP
      obtain ⟨w5, rfl⟩ : ∃ w5, w5 = wr := ⟨_, rfl⟩
      go_wp2_with fail
      go_loopw [7, 8] (fun v i wx => ∃ k go cap : Nat, k ≤ 8 ∧ i = .int .i64 (k : Int) ∧ v = .slice (some ⟨go, 0, none⟩) (4 * k) cap ∧ Row wx w5.heap.size go (4 * k) cap ((outTo (blocks p q) k).map B) ∧ Below w5.heap.size w5 wx) (fun _ i _ => 8 - (intOf i).toNat)
      case atStart => exact ⟨0, w5.heap.size, 0, by omega, rfl, rfl, Row.of_block (Nat.le_refl _) (heap_alloc_new w5 _) 0 (by simp) (.inl rfl), (Below.refl _ _).alloc (Nat.le_refl _) _⟩
      case round =>
        obtain ⟨k, go, cap, hk, rfl, rfl, hrow, hbx⟩ := hrel
        have hsx := hbx.size
        have hgo := hrow.ge
        by_cases hlt2 : k < 8
        · obtain ⟨x, hx⟩ : ∃ x, (blocks p q).getD k 0 = x := ⟨_, rfl⟩
          have cx : wr.cell? ⟨g, k, none⟩ = some (.int .u32 (x.toNat : Int)) := by rw [← hx]; exact (hbx.cell hgl).trans (HG.out k hlt2)
          have HX : Hid ((blocks p q).getD k 0 = x) := hx
          clear hx
          have hne : some g ≠ some go := by simp; omega
          have q0 : (0 : Int) ≤ (k : Int) := by omega
          have q1 : (k : Int) < 8 := by omega
          go_wp2_with fail
          go_region_held3 (fun w' => w'.cell? ⟨g, k, none⟩ = some (.int .u32 (x.toNat : Int)))
            (first | go_keep | (rw [hgrow.cell_far _ (by simp; omega) hne]; assumption))
            ((refine step_append_row _ (by rfl) _ _ _ (by rfl) 5 i0 _ 1 Tryz.underlying41 hi0 hz0 hz1 hz2 rfl w5.heap.size go (4 * k) cap _ (by rfl) ((hrow.alloc _).drew) ⟨wr.heap.size, 0, none⟩ 4 4 [_, _, _, _] (by rfl) (by rfl) (World.news_of_block (heap_alloc_new wr _)) (by simp [Value.oneCell']) (by unfold maxLen; omega) (by omega) (by simp; omega) (wr.heap.size + 1) (by simp) ?_; intro go' cap' wy hrow' hgrow hat hold))
          go_wp2
          go_roundw
          case rel =>
            rw [← outTo_succ (blocks p q) k x HX.out] at hrow'
            exact ⟨k + 1, go', cap', by omega, by go_num, rfl, hrow', (hbx.alloc hsx _).drew.grown hgrow (by simp; omega) (fun y hy => by cases hy; exact hgo)⟩
          case measure => simp [intOf]; omega
        · obtain rfl : k = 8 := by omega
          go_wp2_with (refine wpList_string_row _ rfl (.tmp 55) 41 9 5 rfl w5.heap.size go 32 cap _ rfl (by exact hrow) Tryz.underlying41 Tryz.underlying5 Tryz.underlying9 ?_)
          go_ret
          rw [HF.out]
          exact ⟨rfl, hbw.trans (hbx.mono hbw.size)⟩
end Go.Proofs.YtibjhkpgaaapaaaGreatDoor
namespace Go.Proofs.Sha
open Go Go.RowKit Go.Great

theorem Row.range {w : World} {base g n cap : Nat} {xs : List Value} (h : Row w base g n cap xs) : w.rangeAt g 0 xs := fun j v hv => by
  have hj : j < n := by have := (List.getElem?_eq_some_iff.1 hv).1; have := h.len; omega
  rw [Nat.zero_add, h.cell j hj, hv]
theorem Row.there {w : World} {base g n cap : Nat} {xs : List Value} (h : Row w base g n cap xs) : w.there g 0 cap := fun j hj => by
  rw [Nat.zero_add]; exact ⟨h.room j hj, h.free j hj⟩

theorem Row.set {w : World} {base g n cap : Nat} {xs : List Value} (h : Row w base g n cap xs) (i : Nat) (hi : i < n) (v : Value) : Row (w.setCell ⟨g, i, none⟩ v) base g n cap (xs.set i v) := by
  have hs := grownBy_setCell w g i v
  have hle := h.le
  obtain ⟨u, hu⟩ := Option.isSome_iff_exists.1 (h.room i (by omega))
  have hc : ∀ j, j ≠ i → (w.setCell ⟨g, i, none⟩ v).cell? ⟨g, j, none⟩ = w.cell? ⟨g, j, none⟩ := fun j hj => World.cell?_setCell_other _ _ _ _ (fun e => hj (by cases e; rfl))
  have hc' : (w.setCell ⟨g, i, none⟩ v).cell? ⟨g, i, none⟩ = some v := World.cell?_setCell_same _ _ _ hu
  refine ⟨h.ge, Nat.lt_of_lt_of_le h.lt hs.size, by rw [List.length_set]; exact h.len, hle, fun j hj => ?_, fun j hj => ?_, fun j hj => by rw [World.frozen?_setCell]; exact h.free j hj⟩
  · by_cases e : j = i
    · subst e; rw [hc', List.getElem?_set_self (by rw [h.len]; exact hi)]
    · rw [hc j e, h.cell j hj, List.getElem?_set_ne (fun e' => e e'.symm)]
  · by_cases e : j = i
    · subst e; rw [hc']; rfl
    · rw [hc j e]; exact h.room j hj

theorem Row.setAll {w : World} {base g n : Nat} {xs : List Value} (h : Row w base g n n xs) (ys : List Value) (hy : ys.length = n) : Row (w.setCells g 0 ys) base g n n ys := by
  have hs := grownBy_setCells g ys 0 w
  have hin : ∀ j (hj : j < ys.length), (w.setCells g 0 ys).cell? ⟨g, 0 + j, none⟩ = some ys[j] := World.cell?_setCells_in g ys 0 w (fun j hj => by rw [Nat.zero_add]; exact h.room j (by omega))
  refine ⟨h.ge, Nat.lt_of_lt_of_le h.lt hs.size, hy, Nat.le_refl _, fun j hj => ?_, fun j hj => ?_, fun j hj => by rw [World.frozen?_setCells]; exact h.free j hj⟩
  · have := hin j (by omega)
    rw [Nat.zero_add] at this
    rw [this, List.getElem?_eq_getElem (by omega)]
  · have := hin j (by omega)
    rw [Nat.zero_add] at this
    rw [this]; rfl

section
variable {P : Program} (w : World)

theorem wpList_alloc_row {ops : Array Oper} {rest : List Oper} {o : Oper} {a : Act} {Q : Exit → Act → World → Prop} (hgd : o.guard = none) (dst : Option Tmp) (hdst : o.dst = dst) (ty ty' : TypeId) (ho : o.op = .alloc ty) (xs : List Value)
    (hrun : ∀ w : World, (Instr.alloc ty true (.tuple #[])).run P w = .ok (.pointer (some ⟨w.heap.size, 0, none⟩)) (w.alloc (.cells xs.toArray ty')))
    (h : ∀ g w', Row w' w.heap.size g xs.length xs.length xs → Below w.heap.size w w' → wpList P ops Q rest (a.put dst (.pointer (some ⟨g, 0, none⟩))) w') : wpList P ops Q (o :: rest) a w := by
  refine wpList_runTo hgd dst hdst (.pointer (some ⟨w.heap.size, 0, none⟩)) (w.alloc (.cells xs.toArray ty')) ?_ (h _ _ ?_ ((Below.refl _ _).alloc (Nat.le_refl _) _))
  · unfold execOp
    simp only [ho, Sem.run_bind, hrun, Result.andThen_ok, Sem.run_pure]
  · have := Row.of_block (base := w.heap.size) (Nat.le_refl _) (heap_alloc_new w (.cells xs.toArray ty')) xs.length (by simp) (.inl rfl)
    simpa using this

theorem wpList_load_whole {ops : Array Oper} {rest : List Oper} {o : Oper} {a : Act} {Q : Exit → Act → World → Prop} (hgd : o.guard = none) (ty : TypeId) (x : Operand) (ho : o.op = .load ty x)
    (base g n cap : Nat) (xs : List Value) (e : TypeId) (hx : a.eval x = .pointer (some ⟨g, 0, none⟩)) (hr : Row w base g n cap xs)
    (hu : P.underlying ty = some (.array n e)) (hi : (P.info? ty).map (·.size) = some n)
    (h : wpList P ops Q rest (a.put o.dst (.agg xs.toArray)) w) : wpList P ops Q (o :: rest) a w :=
  wpList_load_mid hgd ty x ho g 0 hx xs _ hr.range hu rfl (by rw [hi, hr.len]) h

theorem wpList_store_whole {ops : Array Oper} {rest : List Oper} {o : Oper} {a : Act} {Q : Exit → Act → World → Prop} (hgd : o.guard = none) (hdst : o.dst = none) (ty : TypeId) (x y : Operand) (ho : o.op = .store ty x y)
    (base g n : Nat) (xs ys : List Value) (hx : a.eval x = .pointer (some ⟨g, 0, none⟩)) (hy : a.eval y = .agg ys.toArray) (hr : Row w base g n n xs) (hl : ys.length = n)
    (hi : (P.info? ty).map (·.size) = some n) (h1 : ∀ v ∈ ys, v.oneCell' = true)
    (h : ∀ w', Row w' base g n n ys → w.grownBy w' (some g) → wpList P ops Q rest a w') : wpList P ops Q (o :: rest) a w :=
  wpList_store_mid hgd ty x y ho g 0 ys.toArray hx hy (by rw [List.size_toArray, hl]; exact hr.there) (by rw [hi, List.size_toArray, hl]) (all_oneCell_toArray h1) (by
    rw [hdst]; exact h _ (hr.setAll ys hl) (grownBy_setCells g ys 0 w))

theorem results_cell {fn : Func} {p : Tmp} {ty : TypeId} (h : fn.results = #[.cell p ty]) (tmps : Array Value) (b : Addr) (hp : tmps.getD p undef = .pointer (some b)) : (results fn tmps).run P w = (loadVar ty b).run P w := by
  have hp' : tmps[p]?.getD undef = .pointer (some b) := by simpa using hp
  simp only [results, h]
  simp [hp', asAddr]

theorem ret_row {fn : Func} {R : Ending → World → Prop} {a : Act} {p : Tmp} {ty : TypeId} (hres : fn.results = #[.cell p ty]) (base g n cap : Nat) (xs : List Value) (e : TypeId) (ht : a.tmps.getD p undef = .pointer (some ⟨g, 0, none⟩))
    (hr : Row w base g n cap xs) (hu : P.underlying ty = some (.array n e)) (hi : (P.info? ty).map (·.size) = some n) (hdef : a.defers = []) (hR : R (.returned (.agg xs.toArray)) w) : bodyPost P fn R .ret a w := by
  refine bodyPost_ret (v := .agg xs.toArray) ?_ hdef hR
  rw [results_cell w hres a.tmps _ ht]
  exact run_loadVar_mid w g 0 ty xs _ hr.range hu rfl (by rw [hi, hr.len])

theorem wpList_index_u {ops : Array Oper} {rest : List Oper} {o : Oper} {a : Act} {Q : Exit → Act → World → Prop} (hgd : o.guard = none) (t : TypeId) (x y : Operand) (ho : o.op = .index t x y)
    (L : List UInt32) (n e i : Nat) (hx : a.eval x = .agg (L.map U).toArray) (hy : a.eval y = .int .i64 (i : Int)) (hL : L.length = n) (hi : i < n)
    (hu : P.underlying t = some (.array n e)) (he : P.underlying e = some (.int .u32)) (hs : (P.info? e).map (·.size) = some 1)
    (h : wpList P ops Q rest (a.put o.dst (.int .u32 ((L.getD i 0).toNat : Int))) w) : wpList P ops Q (o :: rest) a w := by
  refine wpList_runTo hgd o.dst rfl (.int .u32 ((L.getD i 0).toNat : Int)) w ?_ h
  unfold execOp
  cases hq : P.info? e with
  | none => simp [hq] at hs
  | some ie =>
    have hs1 : ie.size = 1 := by simpa [hq] using hs
    have hc := tab_cell L i (by omega)
    simp [ho, hx, hy, Instr.index, run_underlying hu, asIntOf, sizeOf, typeInfo, hq, hs1]
    have hpart : (part e (L.map U).toArray i).run P w = .ok (.int .u32 ((L.getD i 0).toNat : Int)) w := by
      have hagg : (isAgg e).run P w = .ok false w := by
        unfold isAgg
        rw [Sem.run_bind, run_underlying he w]; rfl
      unfold part
      rw [Sem.run_bind, hagg, hc]; rfl
    rw [if_pos hi, hpart]; simp
end

/-- The hasher's block: eight words, 64 bytes, how many of them are held, the size. -/
structure Hsh (w : World) (b : Nat) (h : List UInt32) (k : List UInt8) (held size : Nat) : Prop where
  hl : h.length = 8
  kl : k.length = 64
  hs : ∀ j, j < 8 → w.cell? ⟨b, j, none⟩ = some (.int .u32 ((h.getD j 0).toNat : Int))
  ks : ∀ j, j < 64 → w.cell? ⟨b, 8 + j, none⟩ = some (.int .u8 ((k.getD j 0).toNat : Int))
  hd : w.cell? ⟨b, 72, none⟩ = some (.int .i64 (held : Int))
  sz : w.cell? ⟨b, 73, none⟩ = some (.int .u64 (size : Int))
  fr : ∀ j, j < 74 → w.frozen? ⟨b, j, none⟩ = false

theorem Hsh.lt {w : World} {b : Nat} {h : List UInt32} {k : List UInt8} {held size : Nat} (H : Hsh w b h k held size) : b < w.heap.size := World.block_lt_of_cell? w _ H.hd
theorem Hsh.kept {w w' : World} {b : Nat} {h : List UInt32} {k : List UInt8} {held size : Nat} {row : Option Nat} (H : Hsh w b h k held size) (hg : w.grownBy w' row) (hn : some b ≠ row) : Hsh w' b h k held size := by
  have hc : ∀ j, w'.cell? ⟨b, j, none⟩ = w.cell? ⟨b, j, none⟩ := fun j => hg.cell_far _ H.lt hn
  have hf : ∀ j, w'.frozen? ⟨b, j, none⟩ = w.frozen? ⟨b, j, none⟩ := fun j => hg.frozen_far _ H.lt hn
  exact ⟨H.hl, H.kl, fun j hj => (hc j).trans (H.hs j hj), fun j hj => (hc _).trans (H.ks j hj), (hc _).trans H.hd, (hc _).trans H.sz, fun j hj => (hf j).trans (H.fr j hj)⟩
theorem Hsh.below {w w' : World} {b : Nat} {h : List UInt32} {k : List UInt8} {held size : Nat} (H : Hsh w b h k held size) (hg : Below w.heap.size w w') : Hsh w' b h k held size := H.kept (grownBy_of_below hg none) (by simp)
theorem Hsh.drew {w : World} {b : Nat} {h : List UInt32} {k : List UInt8} {held size : Nat} (H : Hsh w b h k held size) : Hsh w.drew b h k held size := H.kept (grownBy_drew w none) (by simp)

theorem getD_set {α : Type} (l : List α) (i j : Nat) (v d : α) (hi : i < l.length) : (l.set i v).getD j d = if j = i then v else l.getD j d := by
  rw [List.getD_eq_getElem?_getD, List.getD_eq_getElem?_getD]
  by_cases e : j = i
  · subst e; rw [List.getElem?_set_self hi, if_pos rfl]; rfl
  · rw [List.getElem?_set_ne (fun e' => e e'.symm), if_neg e]

section
variable {w : World} {b : Nat} {h : List UInt32} {k : List UInt8} {held size : Nat}
theorem cell_set_ne (w : World) (b i j : Nat) (v : Value) (hn : j ≠ i) : (w.setCell ⟨b, i, none⟩ v).cell? ⟨b, j, none⟩ = w.cell? ⟨b, j, none⟩ := World.cell?_setCell_other _ _ _ _ (fun e => hn (by cases e; rfl))

theorem Hsh.setHeld (H : Hsh w b h k held size) (n : Nat) : Hsh (w.setCell ⟨b, 72, none⟩ (.int .i64 (n : Int))) b h k n size := by
  refine ⟨H.hl, H.kl, fun j hj => ?_, fun j hj => ?_, World.cell?_setCell_same _ _ _ H.hd, ?_, fun j hj => by rw [World.frozen?_setCell]; exact H.fr j hj⟩
  · rw [cell_set_ne _ _ _ _ _ (by omega)]; exact H.hs j hj
  · rw [cell_set_ne _ _ _ _ _ (by omega)]; exact H.ks j hj
  · rw [cell_set_ne _ _ _ _ _ (by omega)]; exact H.sz
theorem Hsh.setSize (H : Hsh w b h k held size) (n : Nat) : Hsh (w.setCell ⟨b, 73, none⟩ (.int .u64 (n : Int))) b h k held n := by
  refine ⟨H.hl, H.kl, fun j hj => ?_, fun j hj => ?_, ?_, World.cell?_setCell_same _ _ _ H.sz, fun j hj => by rw [World.frozen?_setCell]; exact H.fr j hj⟩
  · rw [cell_set_ne _ _ _ _ _ (by omega)]; exact H.hs j hj
  · rw [cell_set_ne _ _ _ _ _ (by omega)]; exact H.ks j hj
  · rw [cell_set_ne _ _ _ _ _ (by omega)]; exact H.hd
theorem Hsh.setByte (H : Hsh w b h k held size) (i : Nat) (hi : i < 64) (v : UInt8) : Hsh (w.setCell ⟨b, 8 + i, none⟩ (.int .u8 (v.toNat : Int))) b h (k.set i v) held size := by
  refine ⟨H.hl, by rw [List.length_set]; exact H.kl, fun j hj => ?_, fun j hj => ?_, ?_, ?_, fun j hj => by rw [World.frozen?_setCell]; exact H.fr j hj⟩
  · rw [cell_set_ne _ _ _ _ _ (by omega)]; exact H.hs j hj
  · rw [getD_set k i j v 0 (by rw [H.kl]; exact hi)]
    by_cases e : j = i
    · subst e; rw [if_pos rfl]; exact World.cell?_setCell_same _ _ _ (H.ks j hj)
    · rw [if_neg e, cell_set_ne _ _ _ _ _ (by omega)]; exact H.ks j hj
  · rw [cell_set_ne _ _ _ _ _ (by omega)]; exact H.hd
  · rw [cell_set_ne _ _ _ _ _ (by omega)]; exact H.sz
theorem Hsh.setWord (H : Hsh w b h k held size) (i : Nat) (hi : i < 8) (v : UInt32) : Hsh (w.setCell ⟨b, i, none⟩ (.int .u32 (v.toNat : Int))) b (h.set i v) k held size := by
  refine ⟨by rw [List.length_set]; exact H.hl, H.kl, fun j hj => ?_, fun j hj => ?_, ?_, ?_, fun j hj => by rw [World.frozen?_setCell]; exact H.fr j hj⟩
  · rw [getD_set h i j v 0 (by rw [H.hl]; exact hi)]
    by_cases e : j = i
    · subst e; rw [if_pos rfl]; exact World.cell?_setCell_same _ _ _ (H.hs j hj)
    · rw [if_neg e, cell_set_ne _ _ _ _ _ (by omega)]; exact H.hs j hj
  · rw [cell_set_ne _ _ _ _ _ (by omega)]; exact H.ks j hj
  · rw [cell_set_ne _ _ _ _ _ (by omega)]; exact H.hd
  · rw [cell_set_ne _ _ _ _ _ (by omega)]; exact H.sz
end

/-- The array of the schedule behind q rounds. -/
def arr (m : List UInt8) (q : Nat) : List UInt32 := sched m q ++ List.replicate (64 - q) 0
theorem arr_getD (m : List UInt8) (q j : Nat) (hj : j < q) : (arr m q).getD j 0 = (sched m q).getD j 0 := by
  rw [List.getD_eq_getElem?_getD, List.getD_eq_getElem?_getD, arr, List.getElem?_append_left (by rw [sched_length]; exact hj)]
theorem arr_set (m : List UInt8) (q : Nat) (hq : q < 64) (v : UInt32) : (arr m q).set q v = (sched m q ++ [v]) ++ List.replicate (64 - (q + 1)) 0 := by
  have e : 64 - q = (64 - (q + 1)) + 1 := by omega
  rw [arr, e, List.replicate_succ, List.set_append_right _ _ (by rw [sched_length]; exact Nat.le_refl _), sched_length, Nat.sub_self]
  simp
theorem arr_lo (m : List UInt8) (q p : Nat) (b0 b1 b2 b3 : UInt8) (hq : q < 16) (hp : p = 4 * q)
    (hb : m.getD p 0 = b0 ∧ m.getD (p + 1) 0 = b1 ∧ m.getD (p + 2) 0 = b2 ∧ m.getD (p + 3) 0 = b3) :
    ((arr m q).map U).set q (.int .u32 (bits BinOp.or IntKind.u32 (bits BinOp.or IntKind.u32 (bits BinOp.or IntKind.u32 (IntKind.u32.wrap (IntKind.u32.wrap (b0.toNat : Int) * 16777216)) (IntKind.u32.wrap (IntKind.u32.wrap (b1.toNat : Int) * 65536)))
      (IntKind.u32.wrap (IntKind.u32.wrap (b2.toNat : Int) * 256))) (IntKind.u32.wrap (b3.toNat : Int)))) = (arr m (q + 1)).map U := by
  rw [word_form]
  show ((arr m q).map U).set q (U _) = _
  rw [← List.map_set, arr_set m q (by omega)]
  obtain ⟨h0, h1, h2, h3⟩ := hb
  subst hp
  rw [← h0, ← h1, ← h2, ← h3]
  show _ = ((sched m q ++ [_]) ++ _).map U
  rw [if_pos hq]
theorem arr_hi (m : List UInt8) (q : Nat) (x16 x15 x7 x2 : UInt32) (hq : 16 ≤ q) (hq2 : q < 64)
    (hb : (sched m q).getD (q - 16) 0 = x16 ∧ (sched m q).getD (q - 15) 0 = x15 ∧ (sched m q).getD (q - 7) 0 = x7 ∧ (sched m q).getD (q - 2) 0 = x2) :
    ((arr m q).map U).set q (.int .u32 (IntKind.u32.wrap (IntKind.u32.wrap (IntKind.u32.wrap (((sumNear x2).toNat : Int) + x7.toNat) + (sumFar x15).toNat) + x16.toNat))) = (arr m (q + 1)).map U := by
  rw [wrap_add, wrap_add, wrap_add]
  show ((arr m q).map U).set q (U _) = _
  rw [← List.map_set, arr_set m q hq2]
  obtain ⟨h0, h1, h2, h3⟩ := hb
  rw [← h0, ← h1, ← h2, ← h3]
  show _ = ((sched m q ++ [_]) ++ _).map U
  rw [if_neg (by omega)]
  congr 4
  generalize (sched m q).getD (q - 16) 0 = a
  generalize sumFar ((sched m q).getD (q - 15) 0) = c
  generalize (sched m q).getD (q - 7) 0 = d
  generalize sumNear ((sched m q).getD (q - 2) 0) = e
  ac_rfl
theorem arr_full (m : List UInt8) : arr m 64 = sched m 64 := by simp [arr]

theorem cell_set_far (w : World) (g i b j : Nat) (v : Value) (hne : b ≠ g) : (w.setCell ⟨g, i, none⟩ v).cell? ⟨b, j, none⟩ = w.cell? ⟨b, j, none⟩ := World.cell?_setCell_other _ _ _ _ (fun e => hne (by cases e; rfl))

/-- The state with the first i words added. -/
def addTo (h v : List UInt32) : Nat → List UInt32
  | 0 => h
  | i + 1 => (addTo h v i).set i ((addTo h v i).getD i 0 + v.getD i 0)
theorem addTo_comp (m : List UInt8) (W : List UInt32) (x0 x1 x2 x3 x4 x5 x6 x7 va vb vc vd ve vf vg vz : UInt32)
    (hw : sched m 64 = W) (hr : rnds W ⟨x0, x1, x2, x3, x4, x5, x6, x7⟩ 64 = ⟨va, vb, vc, vd, ve, vf, vg, vz⟩) :
    addTo [x0, x1, x2, x3, x4, x5, x6, x7] [va, vb, vc, vd, ve, vf, vg, vz] 8 = comp [x0, x1, x2, x3, x4, x5, x6, x7] m := by
  unfold comp ofL
  rw [hw]
  show _ = [x0 + (rnds W ⟨x0, x1, x2, x3, x4, x5, x6, x7⟩ 64).a, x1 + (rnds W ⟨x0, x1, x2, x3, x4, x5, x6, x7⟩ 64).b, x2 + (rnds W ⟨x0, x1, x2, x3, x4, x5, x6, x7⟩ 64).c, x3 + (rnds W ⟨x0, x1, x2, x3, x4, x5, x6, x7⟩ 64).d,
    x4 + (rnds W ⟨x0, x1, x2, x3, x4, x5, x6, x7⟩ 64).e, x5 + (rnds W ⟨x0, x1, x2, x3, x4, x5, x6, x7⟩ 64).f, x6 + (rnds W ⟨x0, x1, x2, x3, x4, x5, x6, x7⟩ 64).g, x7 + (rnds W ⟨x0, x1, x2, x3, x4, x5, x6, x7⟩ 64).z]
  rw [hr]; rfl
theorem list8 (h : List UInt32) (hl : h.length = 8) : ∃ x0 x1 x2 x3 x4 x5 x6 x7, h = [x0, x1, x2, x3, x4, x5, x6, x7] := by
  match h, hl with
  | [x0, x1, x2, x3, x4, x5, x6, x7], _ => exact ⟨x0, x1, x2, x3, x4, x5, x6, x7, rfl⟩

end Go.Proofs.Sha
