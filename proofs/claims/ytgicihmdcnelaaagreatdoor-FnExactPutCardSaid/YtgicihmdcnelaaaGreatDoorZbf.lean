import Derived.Test.YtgicihmdcnelaaaGreatDoorZbe
import Derived.Test.YtgicihmdcnelaaaGreatDoorZao
import Derived.Test.YtgicihmdcnelaaaGreatDoorZal
import Derived.Deep.AppendLies
import Derived.Deep.RegionLaw
import Derived.Test.YtgicihmdcnelaaaGreatDoorZax
namespace Go.Proofs.YtgicihmdcnelaaaGreatDoor
open Go.RowKit Go.Proofs.Sha

/-- A list of pairs of one's own, in a variable that is captured. -/
structure PS (c base : Nat) (ps : List PairT) (a : Option Addr) (cap : Nat) (w : World) : Prop where
  blk : w.heap[c]? = some (.cells #[.slice a ps.length cap] 33)
  own : w.ownsRow base 60 2 (.slice a ps.length cap) ps.length (flatP ps)
  hc : c < base
  hb : base ≤ w.heap.size
theorem PS.below {c base : Nat} {ps : List PairT} {a : Option Addr} {cap : Nat} {w w' : World} (h : PS c base ps a cap w) (hb : Below w.heap.size w w') : PS c base ps a cap w' :=
  ⟨(hb.block c (Nat.lt_of_lt_of_le h.hc h.hb)).trans h.blk, own2_kept h.own (fun g _ hg => hb.block g hg), h.hc, Nat.le_trans h.hb hb.size⟩
/-- All below 'base' but 'c' is as it was. -/
abbrev Ub (base c : Nat) : World → World → Prop := Upd (fun k => k = c ∨ base ≤ k)
theorem Upd.of_grown {M : Nat → Prop} {w w' : World} {row : Option Nat} (h : w.grownBy w' row) (hM : ∀ g, row = some g → M g) : Upd M w w' :=
  ⟨h.os, h.tape, h.output, h.size, fun k hk hn => h.block k hk (fun e => hn (hM k e.symm))⟩
theorem isThere_any (t : Tr PairT) (f : Tr PairT → ByteArray × ByteArray) (p : Option Addr) (w : World) {n0 : Nat} (h : TA n0 f t p w) : Calls Tryz.prog 84 #[.pointer p] w fun e w' => e = .returned (.bool (someT t)) ∧ w' = w := by
  have hp := h.ptr
  cases t with
  | nil =>
    obtain rfl : p = none := h
    have q : (binOp .neq 65 (.pointer none) (.pointer none)).run Tryz.prog w = .ok (.bool false) w := by
      have := ptr_nil w
      simp only [binOp] at this ⊢
      cases hq : (Op.equal 65 (.pointer none) (.pointer none)).run Tryz.prog w <;> simp_all
    have hs : someT .nil = false := rfl
    rw [hs]
    clear hp hs
    go_enter Tryz.func84, Tryz.ntmps84
    go_wp2_with fail
    go_ret
    exact ⟨rfl, rfl⟩
  | node l x r =>
    obtain ⟨b, pl, pr, rfl, _, hb, _, _⟩ := h
    have q : (binOp .neq 65 (.pointer (some ⟨b, 0, none⟩)) (.pointer none)).run Tryz.prog w = .ok (.bool true) w := by
      have := ptr_some _ w hp
      simp only [binOp] at this ⊢
      cases hq : (Op.equal 65 (.pointer (some ⟨b, 0, none⟩)) (.pointer none)).run Tryz.prog w <;> simp_all
    have hs : someT (.node l x r) = true := rfl
    rw [hs]
    clear hp hb hs
    go_enter Tryz.func84, Tryz.ntmps84
    go_wp2_with fail
    go_ret
    exact ⟨rfl, rfl⟩
theorem cpo_no (c : Nat) (p : Option Addr) (i : Int) (hi : i = 0 ∨ i = 2) (w : World) : Calls Tryz.prog 97 #[.pointer p, .int .i64 i, .pointer (some ⟨c, 0, none⟩)] w fun e w' => e = .returned (.bool true) ∧ w' = w := by
  have hz : (i == 1) = false := by rcases hi with rfl | rfl <;> rfl
  go_enter Tryz.func97, Tryz.ntmps97
  go_wp2_with fail
  go_ret
  exact ⟨rfl, rfl⟩

set_option maxRecDepth 100000 in
set_option maxHeartbeats 1000000 in
theorem cpo_yes (c base b : Nat) (ps : List PairT) (a : Option Addr) (cap : Nat) (x : PairT) (l r : Option Addr) (e0 : ByteArray × ByteArray) (w : World) (h : PS c base ps a cap w) (hT : TB b x l r e0 w) (_hbc : b ≠ c) (hbb : b < base) (hlen : ps.length ≤ 100000) :
    Calls Tryz.prog 97 #[.pointer (some ⟨b, 0, none⟩), .int .i64 1, .pointer (some ⟨c, 0, none⟩)] w fun e w' => e = .returned (.bool true) ∧ (∃ a' cap', PS c base (ps ++ [x]) a' cap' w') ∧ Ub base c w w' := by
  obtain ⟨i0, hi0, hz0, hz1, hz2⟩ := info_parts2 info37
  have hblk := h.blk
  have own := h.own
  have hc := h.hc
  have hb := h.hb
  have c0 := hT.c0
  have c1 := hT.c1
  have cc := Lib.cell_of_heap hblk 0
  obtain ⟨xk, xv⟩ := x
  obtain ⟨n, hn⟩ : ∃ n, ps.length = n := ⟨_, rfl⟩
  rw [hn] at hblk own cc hlen
  have hfl : Hid (flatP (ps ++ [(xk, xv)]) = flatP ps ++ [.string xk, .string xv]) := flatP_app _ _
  have hln : Hid ((ps ++ [(xk, xv)]).length = n + 1) := by show _ = _; rw [List.length_append, hn]; rfl
  have hbB : Below w.heap.size w (w.drew.alloc (.cells #[.string xk, .string xv] 60)) := (Below.refl _ _).drew.alloc (Nat.le_refl _) _
  have hca : ∀ o, (w.alloc o).cell? ⟨c, 0, none⟩ = some (.slice a n cap) := fun o => (World.cell?_alloc_lt _ _ _ (by show c < _; omega)).trans cc
  have hcb : ∀ o, (w.alloc o).cell? ⟨b, 0, none⟩ = some (.string xk) ∧ (w.alloc o).cell? ⟨b, 1, none⟩ = some (.string xv) := fun o => ⟨(World.cell?_alloc_lt _ _ _ (by show b < _; omega)).trans c0, (World.cell?_alloc_lt _ _ _ (by show b < _; omega)).trans c1⟩
  clear hT h
  go_enter Tryz.func97, Tryz.ntmps97
  go_upto_region 2 with fail
  go_region_law ((refine step_append_lies _ (by rfl) (.tmp 8) (.tmp 13) 33 (by rfl) base 60 i0 (.agg #[.string ⟨#[]⟩, .string ⟨#[]⟩]) 2 32 Tryz.underlying33 hi0 hz0 hz1 hz2 (by rfl) (by decide) (.slice a n cap) n (flatP ps) (by rfl) (own.alloc _) ⟨w.heap.size, 0, none⟩ 1 1 [.string xk, .string xv] (by rfl) (by rfl) (World.news_of_block (heap_alloc_new w.drew _)) (by simp [Value.oneCell']) (by decide) (by unfold maxLen; omega) (by omega) (by simp; omega) (w.heap.size + 1) (by simp) ?_; intro g4 c4 w4 hown4 hgrow4 hat4 hlt4; have hlb4 := (hgrow4.block c (by simp; omega) (fun e => by have := (own2_cells own e.symm).1; omega)).trans ((hbB.block c (by omega)).trans hblk); have k1 := Lib.cell_of_heap hlb4 0; have f1 : w4.frozen? ⟨c, 0, none⟩ = false := by rw [World.frozen?, hlb4]; rfl))
  all_goals
    have hs4 := hgrow4.size
    have hbd : Below w.heap.size w ((w.alloc (.cells #[.string xk, .string xv] 60)).drew) := ((Below.refl _ _).alloc (Nat.le_refl _) _).drew
    have hu : Ub base c w (w4.setCell ⟨c, 0, none⟩ (.slice (some ⟨g4, 0, none⟩) (n + 1) c4)) := ((Upd.of_below hbd).trans (Upd.of_grown hgrow4 (fun g e => .inr (own2_cells own e).1))).setCell c 0 _ (.inl rfl)
    go_wp2_with fail
    go_ret
    refine ⟨rfl, ⟨some ⟨g4, 0, none⟩, c4, by rw [hln.out]; exact heap_setCell_same w4 c 0 _ 33 _ hlb4, by rw [hln.out, hfl.out]; exact own2_kept hown4 (fun g hv _ => Below.heap_setCell _ _ _ _ (by have e : g4 = g := Option.some.inj hv; have hg4 : base ≤ g4 := (own2_cells hown4 rfl).1; show g ≠ c; omega)), hc, Nat.le_trans hb hu.size⟩, hu⟩
/-- A tree whose blocks lie below 'base' and are not 'c'. -/
def TAb (base c : Nat) (f : Tr PairT → ByteArray × ByteArray) (t : Tr PairT) (p : Option Addr) (w : World) : Prop := ∃ bs, TAL 0 f t p bs w ∧ ∀ b ∈ bs, b < base ∧ b ≠ c
theorem TAb.upd {base c : Nat} {f : Tr PairT → ByteArray × ByteArray} {t : Tr PairT} {p : Option Addr} {w w' : World} (h : TAb base c f t p w) (hu : Ub base c w w') : TAb base c f t p w' := by
  obtain ⟨bs, h1, h2⟩ := h
  exact ⟨bs, h1.upd hu (fun b hb q => by have := h2 b hb; omega), h2⟩
theorem TAb.ta {base c : Nat} {f : Tr PairT → ByteArray × ByteArray} {t : Tr PairT} {p : Option Addr} {w : World} (h : TAb base c f t p w) : TA 0 f t p w := by
  obtain ⟨bs, h1, h2⟩ := h
  exact h1.ta

set_option maxRecDepth 100000 in
set_option maxHeartbeats 2000000 in
theorem walk_pairs (f : Tr PairT → ByteArray × ByteArray) (c base : Nat) : ∀ (t : Tr PairT) (p : Option Addr) (ps : List PairT) (a : Option Addr) (cap : Nat) (w : World), TAb base c f t p w → PS c base ps a cap w → ps.length + t.size ≤ 100000 →
    Calls Tryz.prog 83 #[.pointer p, .func (.func 84) #[] #[], .func (.func 97) #[] #[.pointer (some ⟨c, 0, none⟩)]] w fun e w' => e = .returned (.bool true) ∧ (∃ a' cap', PS c base (ps ++ t.inord) a' cap' w') ∧ Ub base c w w' := by
  intro t
  induction t with
  | nil =>
    intro p ps a cap w ht hp hn
    have HU := isThere_any .nil f p w ht.ta
    have hs : someT .nil = false := rfl
    rw [hs] at HU
    have HP : Hid (∃ a' cap', PS c base (ps ++ Tr.nil.inord) a' cap' w) := ⟨a, cap, by rw [Tr.inord, List.append_nil]; exact hp⟩
    clear hs ht hp hn
    go_enter Tryz.func83, Tryz.ntmps83
    go_wp2_with (go_at_call 84; refine HU.mono ?_; rintro e w1 ⟨rfl, rfl⟩)
    go_ret
    exact ⟨rfl, HP.out, Upd.refl _ _⟩
  | node l x r ihl ihr =>
    intro p ps a cap w ht hp hn
    have HU := isThere_any (.node l x r) f p w ht.ta
    have hs : someT (.node l x r) = true := rfl
    rw [hs] at HU
    clear hs
    obtain ⟨bs, ⟨b, pl, pr, bl, br, rfl, rfl, _, hb, hl, hr⟩, hbs⟩ := ht
    have hbb := hbs b (by simp)
    have tl : TAb base c f l pl w := ⟨bl, hl, fun k hk => hbs k (by simp [hk])⟩
    have tr : TAb base c f r pr w := ⟨br, hr, fun k hk => hbs k (by simp [hk])⟩
    have hm : ∀ w' : World, (method 350 65 (.pointer (some ⟨b, 0, none⟩)) "loop.example/s03048/impl.subtrees").run Tryz.prog w' = .ok (166, .pointer (some ⟨b, 0, none⟩)) w' := fun _ => by kernel_rfl
    have H0 := fun w' => cpo_no c (some ⟨b, 0, none⟩) 0 (.inl rfl) w'
    have H2 := fun w' => cpo_no c (some ⟨b, 0, none⟩) 2 (.inr rfl) w'
    have HS := subs_any b x pl pr _ w hb
    simp only [Tr.size] at hn
    have hll := Tr.inord_len l
    have HL : Hid (∀ w0, Below w.heap.size w w0 → Calls Tryz.prog 83 #[.pointer pl, .func (.func 84) #[] #[], .func (.func 97) #[] #[.pointer (some ⟨c, 0, none⟩)]] w0 fun e w' => e = .returned (.bool true) ∧ (∃ a' cap', PS c base (ps ++ l.inord) a' cap' w') ∧ Ub base c w w') := fun w0 hb0 => by
      refine (ihl pl ps a cap w0 (tl.upd (Upd.of_below hb0)) (hp.below hb0) (by omega)).mono ?_
      rintro e w' ⟨he, hT, hU⟩
      exact ⟨he, hT, (Upd.of_below hb0).trans hU⟩
    have H1 : Hid (∀ w1, Ub base c w w1 → (∃ a' cap', PS c base (ps ++ l.inord) a' cap' w1) → Calls Tryz.prog 97 #[.pointer (some ⟨b, 0, none⟩), .int .i64 1, .pointer (some ⟨c, 0, none⟩)] w1 fun e w' => e = .returned (.bool true) ∧ (∃ a' cap', PS c base (ps ++ l.inord ++ [x]) a' cap' w') ∧ Ub base c w w') := fun w1 hu1 ⟨a1, c1, hp1⟩ => by
      refine (cpo_yes c base b _ a1 c1 x pl pr _ w1 hp1 (hb.upd hu1 (fun q => by omega)) hbb.2 hbb.1 (by rw [List.length_append]; omega)).mono ?_
      rintro e w' ⟨he, hp2, hu2⟩
      exact ⟨he, hp2, hu1.trans hu2⟩
    have HR : Hid (∀ w1, Ub base c w w1 → (∃ a' cap', PS c base (ps ++ l.inord ++ [x]) a' cap' w1) → Calls Tryz.prog 83 #[.pointer pr, .func (.func 84) #[] #[], .func (.func 97) #[] #[.pointer (some ⟨c, 0, none⟩)]] w1 fun e w' => e = .returned (.bool true) ∧ (∃ a' cap', PS c base (ps ++ (Tr.node l x r).inord) a' cap' w') ∧ Ub base c w w') := fun w1 hu1 ⟨a1, c1, hp1⟩ => by
      refine (ihr pr _ a1 c1 w1 (tr.upd hu1) hp1 (by simp only [List.length_append, List.length_cons, List.length_nil]; omega)).mono ?_
      rintro e w' ⟨he, hT, hU⟩
      refine ⟨he, ?_, hu1.trans hU⟩
      have e2 : ps ++ l.inord ++ [x] ++ r.inord = ps ++ (Tr.node l x r).inord := by simp [Tr.inord]
      rw [← e2]; exact hT
    clear hb hl hr hbs hbb tl tr ihl ihr hp hn hll
    go_enter Tryz.func83, Tryz.ntmps83
    go_wp2_with (first | (go_at_call 84; refine HU.mono ?_; rintro e w1 ⟨rfl, rfl⟩) | (go_at_call_of 97 (Value.int .i64 0); refine (H0 _).mono ?_; rintro e w1 ⟨rfl, rfl⟩) | (go_at_call_of 97 (Value.int .i64 1); refine (H1.out _ hu1 hp1).mono ?_; rintro e w2 ⟨rfl, hp2, hu2⟩) | (go_at_call 166; refine HS.mono ?_; rintro e w0 ⟨rfl, hb0⟩) | (go_at_call_of 83 (Value.pointer pl); refine (HL.out _ hb0).mono ?_; rintro e w1 ⟨rfl, hp1, hu1⟩) | (go_at_call_of 83 (Value.pointer pr); refine (HR.out _ hu2 hp2).mono ?_; rintro e w3 ⟨rfl, hp3, hu3⟩) | (go_at_call_of 97 (Value.int .i64 2); refine (H2 _).mono ?_; rintro e w4 ⟨rfl, rfl⟩))
    go_ret
    exact ⟨rfl, hp3, hu3⟩
end Go.Proofs.YtgicihmdcnelaaaGreatDoor
namespace Go.Proofs.YtgicihmdcnelaaaGreatDoor
open Go.RowKit Go.Proofs.Sha

theorem own2_parg {w : World} {base cap : Nat} {a : Option Addr} {ps : List PairT} (h : w.ownsRow base 60 2 (.slice a ps.length cap) ps.length (flatP ps)) (hs : SmallP ps) : PArg a ps w := by
  refine ⟨hs.1, hs.2, fun hn => ?_⟩
  rcases h.2 with ⟨e, h0⟩ | ⟨g, cap', cur, e, hb, hg, q1, q2, q3, q4⟩
  · omega
  · simp only [Value.slice.injEq] at e
    obtain ⟨rfl, _, _⟩ := e
    refine ⟨g, 0, rfl, (Array.getElem?_eq_some_iff.1 hg).1, fun j hj => ?_⟩
    obtain ⟨e0, e1⟩ := flatP_get ps j hj
    rw [← q4] at e0 e1
    rw [List.getElem?_take, if_pos (by omega)] at e0 e1
    rw [Nat.zero_add]
    exact ⟨(Lib.cell_of_heap hg _).trans (by simpa using e0), (Lib.cell_of_heap hg _).trans (by simpa using e1)⟩
theorem alloc43z (w : World) : (Instr.alloc 33 true (.tuple #[])).run Tryz.prog w = .ok (.pointer (some ⟨w.heap.size, 0, none⟩)) (w.alloc (.cells #[.slice none 0 0] 33)) := by kernel_rfl

theorem pairsOf_any (f : Tr PairT → ByteArray × ByteArray) (t : Tr PairT) (p : Option Addr) (w : World) (ht : TA 0 f t p w) (hn : t.size ≤ 100000) (hsm : SmallP t.inord) :
    Calls Tryz.prog 75 #[.pointer p] w fun e w' => (∃ a cap, e = .returned (.slice a t.inord.length cap) ∧ PArg a t.inord w') ∧ Below w.heap.size w w' := by
  obtain ⟨bs, hb⟩ := ht.list
  have hlt := fun k hk => hb.lt k hk
  have hbA : Below w.heap.size w (w.alloc (.cells #[.slice none 0 0] 33)) := (Below.refl _ _).alloc (Nat.le_refl _) _
  have hP : PS w.heap.size (w.heap.size + 1) [] none 0 (w.alloc (.cells #[.slice none 0 0] 33)) := ⟨heap_alloc_new w _, ⟨rfl, .inl ⟨rfl, rfl⟩⟩, Nat.lt_succ_self _, by simp⟩
  have hT : TAb (w.heap.size + 1) w.heap.size f t p (w.alloc (.cells #[.slice none 0 0] 33)) := ⟨bs, hb.upd (M := fun _ => False) (Upd.of_below hbA) (fun _ _ q => q), fun k hk => by have := hlt k hk; omega⟩
  have HW := walk_pairs f w.heap.size (w.heap.size + 1) t p [] none 0 _ hT hP (by simp; omega)
  rw [List.nil_append] at HW
  have hmf : ∀ (fn : Fn) (first cap : Array Value) (w : World), (Instr.makeFunc fn first cap).run Tryz.prog w = .ok (.func fn first cap) w := fun _ _ _ _ => rfl
  clear hlt hb ht hP hT
  go_enter Tryz.func75, Tryz.ntmps75
  go_wp2_with (go_at_call 83; refine HW.mono ?_; rintro e w1 ⟨rfl, ⟨a1, c1, hp1⟩, hu1⟩; have hcell := Lib.cell_of_heap hp1.blk 0)
  go_ret
  exact ⟨⟨a1, c1, rfl, own2_parg hp1.own hsm⟩, hbA.trans (hu1.below (by simp) (fun k hk => by omega))⟩
end Go.Proofs.YtgicihmdcnelaaaGreatDoor
namespace Go.Proofs.YtgicihmdcnelaaaGreatDoor
open Go.RowKit Go.Proofs.Sha

/-- What is hashed of an encoding. -/
def txt (e : ByteArray) : ByteArray := ⟨#[78]⟩ ++ e
theorem textOf_any (e : ByteArray) (w : World) (he : e.size ≤ 1048576) : Calls Tryz.prog 104 #[.string e] w fun y w' => y = .returned (.string (txt e)) ∧ w' = w := by
  have z : ¬ (9223372036854775807 < (⟨#[78]⟩ : ByteArray).size + e.size) := by show ¬ _ < 1 + e.size; omega
  have z' : ¬ (9223372036854775807 < 1 + e.size) := by omega
  unfold txt
  go_enter Tryz.func104, Tryz.ntmps104
  go_wp2_with fail
  go_ret
  exact ⟨rfl, rfl⟩
end Go.Proofs.YtgicihmdcnelaaaGreatDoor
namespace Go.Proofs.YtgicihmdcnelaaaGreatDoor
open Go.RowKit Go.Proofs.Sha

/-- The blocks that a saving changes. -/
def SvM (gs sa ra : Nat) (q : Nat) : Prop := q = gs ∨ q = sa ∨ q = ra
def SmallE (ad : List ByteArray) : Prop := ad.length ≤ 20000 ∧ ∀ j, (ad.getD j ⟨#[]⟩).size ≤ 1048576
/-- What a saving holds in memory. -/
def SvAt (gs so sa ra base wd : Nat) : SvR → World → Prop
  | .go ad, w => SVb gs so sa 0 ⟨#[]⟩ ⟨#[]⟩ w ∧ (∃ a c, StockAt sa ra base wd ad a c w) ∧ SmallE ad
  | .full, w => SVb gs so sa 1 ⟨#[]⟩ ⟨#[]⟩ w
  | .clash u e, w => SVb gs so sa 4 (txt u) (txt e) w
def SvR.isGo : SvR → Bool
  | .go _ => true
  | _ => false
theorem svStep_some {wd : Nat} {ss ad : List ByteArray} {e u : ByteArray} (h : fst2 wd ss ad (hashT wd e) = some u) : svStep wd ss (.go ad) e = if u = e then .go ad else .clash u e := by
  unfold fst2 at h
  unfold svStep
  cases hf : firstI (hitB wd (ss ++ ad) (hashT wd e)) (ss.length + ad.length) with
  | none => rw [hf] at h; cases h
  | some i =>
    rw [hf] at h
    simp only [Option.map_some, Option.some.injEq] at h
    simp only [hf, h]
theorem svStep_none {wd : Nat} {ss ad : List ByteArray} {e : ByteArray} (h : fst2 wd ss ad (hashT wd e) = none) : svStep wd ss (.go ad) e = if 20000 ≤ ss.length + ad.length then .full else .go (ad ++ [e]) := by
  unfold fst2 at h
  unfold svStep
  cases hf : firstI (hitB wd (ss ++ ad) (hashT wd e)) (ss.length + ad.length) with
  | none => simp only [hf]
  | some i => rw [hf] at h; cases h
theorem fst2_small {wd : Nat} {ss ad : List ByteArray} {hash u : ByteArray} (h : fst2 wd ss ad hash = some u) (h1 : ∀ j, (ss.getD j ⟨#[]⟩).size ≤ 1048576) (h2 : ∀ j, (ad.getD j ⟨#[]⟩).size ≤ 1048576) : u.size ≤ 1048576 := by
  cases hf : firstI (hitB wd ss hash) ss.length with
  | some i => rw [fst2_old hf] at h; rw [← Option.some.inj h]; exact h1 i
  | none =>
    rw [fst2_new hf] at h
    cases hg : firstI (hitB wd ad hash) ad.length with
    | none => rw [hg] at h; cases h
    | some i => rw [hg] at h; rw [← Option.some.inj h]; exact h2 i
theorem SmallE.snoc {ad : List ByteArray} {e : ByteArray} (h : SmallE ad) (h1 : ad.length < 20000) (he : e.size ≤ 1048576) : SmallE (ad ++ [e]) := by
  refine ⟨by rw [List.length_append]; show ad.length + 1 ≤ _; omega, fun j => ?_⟩
  rw [List.getD_eq_getElem?_getD, List.getElem?_append]
  split
  · have := h.2 j
    rw [List.getD_eq_getElem?_getD] at this
    exact this
  · cases hx : ([e] : List ByteArray)[j - ad.length]? with
    | none => exact Nat.zero_le _
    | some y =>
      have : y ∈ [e] := List.mem_of_getElem? hx
      rw [List.mem_singleton] at this
      subst this
      exact he
theorem Fr.upd {N : Nat → Prop} {w w' : World} (h : Fr w.heap.size N w w') : Upd N w w' :=
  ⟨h.os, h.tape, h.output, h.size, fun q hq hn => h.block q hq hn (fun x => by have := x.1; omega)⟩
theorem svTake_any (HH : Hid (HashSaid KTab)) (gs so sa ra base wd : Nat) (ss : List ByteArray) (ro bo : Nat) (ao : Option Addr) (co : Nat) (w4 : World) (hb4 : base = w4.heap.size)
    (hOld : Hid (∀ W, Upd (SvM gs sa ra) w4 W → StockAt so ro bo wd ss ao co W)) (hKT : Hid (∀ W, Upd (SvM gs sa ra) w4 W → KTab W)) (hs1 : ss.length ≤ 20000) (hs2 : ∀ j, (ss.getD j ⟨#[]⟩).size ≤ 1048576) (_hw1 : 1 ≤ wd) (hw2 : wd ≤ 32)
    (hn1 : gs < base) (hn2 : gs ≠ sa) (hn3 : gs ≠ ra) (tb : Nat) (x : PairT) (pl pr : Option Addr) (enc : ByteArray) (he : enc.size ≤ 10000) (hT : TB tb x pl pr (enc, hashT wd enc) w4) (hnt : ¬ SvM gs sa ra tb)
    (ad : List ByteArray) (W : World) (hU : Upd (SvM gs sa ra) w4 W) (hA : SvAt gs so sa ra base wd (.go ad) W) :
    Calls Tryz.prog 86 #[.pointer (some ⟨gs, 0, none⟩), .pointer (some ⟨tb, 0, none⟩)] W fun e W' => e = .returned (.bool (svStep wd ss (.go ad) enc).isGo) ∧ SvAt gs so sa ra base wd (svStep wd ss (.go ad) enc) W' ∧ Upd (SvM gs sa ra) w4 W' := by
  obtain ⟨hg, ⟨a, c, hS⟩, hsm⟩ := hA
  have hTW : TB tb x pl pr (enc, hashT wd enc) W := hT.upd hU hnt
  have c37 := hTW.c37
  have c38 := hTW.c38
  have hO := hOld.out W hU
  have htb : tb < W.heap.size := hTW.lt
  have hhs : (hashT wd enc).size = wd := by
    show ((sha (78 :: enc.data.toList)).take wd).toArray.size = wd
    rw [List.size_toArray, List.length_take, sha_len32]; omega
  have H1 : Hid (∀ w', Below W.heap.size W w' → ∀ fx, firstI (hitB wd ss (hashT wd enc)) ss.length = fx → Calls Tryz.prog 120 #[.pointer (some ⟨so, 0, none⟩), .string (hashT wd enc)] w' fun e w'' => e = .returned (.tuple #[.string (encAt ss fx), .bool fx.isSome]) ∧ Below w'.heap.size w' w'') := fun w' hb fx hfx => stockFirst_any so ro bo wd ss ao co (hashT wd enc) w' (hO.below hb) hs2 (by omega) hw2 hhs fx hfx
  have H2 : Hid (∀ w', Below W.heap.size W w' → ∀ fx, firstI (hitB wd ad (hashT wd enc)) ad.length = fx → Calls Tryz.prog 120 #[.pointer (some ⟨sa, 0, none⟩), .string (hashT wd enc)] w' fun e w'' => e = .returned (.tuple #[.string (encAt ad fx), .bool fx.isSome]) ∧ Below w'.heap.size w' w'') := fun w' hb fx hfx => stockFirst_any sa ra base wd ad a c (hashT wd enc) w' (hS.below hb) hsm.2 (by have := hsm.1; omega) hw2 hhs fx hfx
  have HF : Hid (∀ w', Below W.heap.size W w' → Calls Tryz.prog 103 #[.pointer (some ⟨gs, 0, none⟩), .string (hashT wd enc)] w' fun e w'' => e = .returned (.tuple #[.string (encO (fst2 wd ss ad (hashT wd enc))), .bool (fst2 wd ss ad (hashT wd enc)).isSome]) ∧ Below w'.heap.size w' w'') := fun w' hb => savFirst_any gs so sa 0 ⟨#[]⟩ ⟨#[]⟩ wd ss ad (hashT wd enc) w' (hg.below hb) (fun w2 hb2 => H1.out w2 (hb.trans (hb2.mono hb.size))) (fun w2 hb2 => H2.out w2 (hb.trans (hb2.mono hb.size)))
  cases hf : fst2 wd ss ad (hashT wd enc) with
  | some u =>
    rw [hf] at HF
    rw [svStep_some hf]
    have hu := fst2_small hf hs2 hsm.2
    by_cases e : u = enc
    · subst e
      rw [if_pos rfl]
      refine (savTake_same gs tb u (hashT wd u) W htb c37 c38 HF).mono ?_
      rintro e w' ⟨he, hb⟩
      exact ⟨he, ⟨hg.below hb, ⟨a, c, hS.below hb⟩, hsm⟩, hU.trans (Upd.of_below hb)⟩
    · rw [if_neg e]
      have HT1 : Hid (∀ w', Calls Tryz.prog 104 #[.string u] w' fun e w'' => e = .returned (.string (txt u)) ∧ Below w'.heap.size w' w'') := fun w' => (textOf_any u w' hu).mono (by rintro e w'' ⟨h1, rfl⟩; exact ⟨h1, Below.refl _ _⟩)
      have HT2 : Hid (∀ w', Calls Tryz.prog 104 #[.string enc] w' fun e w'' => e = .returned (.string (txt enc)) ∧ Below w'.heap.size w' w'') := fun w' => (textOf_any enc w' (by omega)).mono (by rintro e w'' ⟨h1, rfl⟩; exact ⟨h1, Below.refl _ _⟩)
      refine (savTake_clash gs so sa tb _ _ enc (hashT wd enc) u W hg htb c37 c38 e (fun q => hnt (.inl q)) _ _ HT1 HT2 HF).mono ?_
      rintro e w' ⟨he, hb, hfr⟩
      exact ⟨he, hb, hU.trans (hfr.upd.mono fun k hk => .inl hk)⟩
  | none =>
    rw [hf] at HF
    rw [svStep_none hf]
    by_cases hr : 20000 ≤ ss.length + ad.length
    · rw [if_pos hr]
      refine (savTake_full gs so sa tb _ _ enc (hashT wd enc) ao a _ _ co c _ _ _ _ W hg htb c37 c38 hO.blk hS.blk (by omega) (by have := hsm.1; omega) hr HF).mono ?_
      rintro e w' ⟨he, hb, hfr⟩
      exact ⟨he, hb, hU.trans (hfr.upd.mono fun k hk => .inl hk)⟩
    · rw [if_neg hr]
      have HA : Hid (∀ w', Below W.heap.size W w' → Calls Tryz.prog 67 #[.pointer (some ⟨sa, 0, none⟩), .string enc] w' fun e w'' => e = .returned (.tuple #[]) ∧ SVb gs so sa 0 ⟨#[]⟩ ⟨#[]⟩ w'' ∧ w''.cell? ⟨tb, 37, none⟩ = some (.string enc) ∧ ((∃ a c, StockAt sa ra base wd (ad ++ [enc]) a c w'') ∧ Upd (SvM gs sa ra) w4 w'')) := fun w' hb => by
        have hU' : Upd (SvM gs sa ra) w4 w' := hU.trans (Upd.of_below hb)
        refine (stockAdd_all HH (fun w1 w2 h1 h2 => KTab.below h1 h2) sa ra base wd ad a c enc w' (hS.below hb) (hKT.out _ hU') (by omega) hw2 (by have := hsm.1; omega)).mono ?_
        rintro e w'' ⟨a', c', he', hS', hbn, hbk⟩
        have hB0 := hbn 0 (Nat.zero_le _) (Nat.zero_le _)
        have hU2 : Upd (SvM gs sa ra) w4 w'' := ⟨hB0.os.trans hU'.os, hB0.tape.trans hU'.tape, hB0.output.trans hU'.output, Nat.le_trans hU'.size hB0.size, fun q hq hn => (hbk q (by omega) (fun e => hn (.inr (.inl e))) (fun e => hn (.inr (.inr e)))).trans (hU'.block q hq hn)⟩
        exact ⟨he', (hbk gs hn1 hn2 hn3).trans (hg.below hb), (hT.upd hU2 hnt).c37, ⟨a', c', hS'⟩, hU2⟩
      refine (savTake_add gs so sa tb _ _ enc (hashT wd enc) ao a _ _ co c _ _ _ _ W hg htb c37 c38 hO.blk hS.blk (by omega) (by have := hsm.1; omega) (by omega) (fun w'' => (∃ a c, StockAt sa ra base wd (ad ++ [enc]) a c w'') ∧ Upd (SvM gs sa ra) w4 w'') HF HA).mono ?_
      rintro e w' ⟨he2, hb, hR, hU3⟩
      exact ⟨he2, ⟨hb, hR, hsm.snoc (by omega) (by omega)⟩, hU3⟩
end Go.Proofs.YtgicihmdcnelaaaGreatDoor
namespace Go.Proofs.YtgicihmdcnelaaaGreatDoor
open Go.RowKit Go.Proofs.Sha

theorem SvAt.below {gs so sa ra base wd : Nat} {r : SvR} {w w' : World} (h : SvAt gs so sa ra base wd r w) (hb : Below w.heap.size w w') : SvAt gs so sa ra base wd r w' := by
  cases r with
  | go ad =>
    obtain ⟨h1, ⟨a, c, h2⟩, h3⟩ := h
    exact ⟨h1.below hb, ⟨a, c, h2.below hb⟩, h3⟩
  | full => exact SVb.below h hb
  | clash u e => exact SVb.below h hb
theorem sv_stuck (wd : Nat) (ss : List ByteArray) : ∀ (es : List ByteArray) (r : SvR), r.isGo = false → es.foldl (svStep wd ss) r = r
  | [], _, _ => rfl
  | e :: es, r, h => by
    rw [List.foldl_cons]
    have : svStep wd ss r e = r := by
      cases r with
      | go ad => cases h
      | full => rfl
      | clash u x => rfl
    rw [this]
    exact sv_stuck wd ss es r h
theorem csv_no (c : Nat) (p : Option Addr) (i : Int) (hi : i = 0 ∨ i = 1) (w : World) : Calls Tryz.prog 85 #[.pointer p, .int .i64 i, .pointer (some ⟨c, 0, none⟩)] w fun e w' => e = .returned (.bool true) ∧ w' = w := by
  have hz : (i != 2) = true := by rcases hi with rfl | rfl <;> rfl
  go_enter Tryz.func85, Tryz.ntmps85
  go_wp2_with fail
  go_ret
  exact ⟨rfl, rfl⟩
theorem csv_yes (c gs b : Nat) (w : World) (hc : w.cell? ⟨c, 0, none⟩ = some (.pointer (some ⟨gs, 0, none⟩))) (v : Bool) (R : World → Prop)
    (H : Hid (Calls Tryz.prog 86 #[.pointer (some ⟨gs, 0, none⟩), .pointer (some ⟨b, 0, none⟩)] w fun e w' => e = .returned (.bool v) ∧ R w')) :
    Calls Tryz.prog 85 #[.pointer (some ⟨b, 0, none⟩), .int .i64 2, .pointer (some ⟨c, 0, none⟩)] w fun e w' => e = .returned (.bool v) ∧ R w' := by
  go_enter Tryz.func85, Tryz.ntmps85
  go_wp2_with (go_at_call 86; refine H.out.mono ?_; rintro e w1 ⟨rfl, hR⟩)
  go_ret
  exact ⟨rfl, hR⟩
set_option maxRecDepth 100000 in
set_option maxHeartbeats 2000000 in
theorem walk_save (HH : Hid (HashSaid KTab)) (gs so sa ra base wd : Nat) (ss : List ByteArray) (ro bo : Nat) (ao : Option Addr) (co : Nat) (w4 : World) (hb4 : base = w4.heap.size)
    (hOld : Hid (∀ W, Upd (SvM gs sa ra) w4 W → StockAt so ro bo wd ss ao co W)) (hKT : Hid (∀ W, Upd (SvM gs sa ra) w4 W → KTab W)) (hs1 : ss.length ≤ 20000) (hs2 : ∀ j, (ss.getD j ⟨#[]⟩).size ≤ 1048576) (hw1 : 1 ≤ wd) (hw2 : wd ≤ 32)
    (hn1 : gs < base) (hn2 : gs ≠ sa) (hn3 : gs ≠ ra) (cs : Nat) (hcs : w4.cell? ⟨cs, 0, none⟩ = some (.pointer (some ⟨gs, 0, none⟩))) (hnc : ¬ SvM gs sa ra cs) :
    ∀ (t : Tr PairT) (p : Option Addr) (bs : List Nat) (ad : List ByteArray) (W : World), TAL 0 (hf wd) t p bs w4 → (∀ b ∈ bs, ¬ SvM gs sa ra b) → Upd (SvM gs sa ra) w4 W → SvAt gs so sa ra base wd (.go ad) W →
      Calls Tryz.prog 83 #[.pointer p, .func (.func 84) #[] #[], .func (.func 85) #[] #[.pointer (some ⟨cs, 0, none⟩)]] W fun e W' => e = .returned (.bool ((encsT wd t).foldl (svStep wd ss) (.go ad)).isGo) ∧ SvAt gs so sa ra base wd ((encsT wd t).foldl (svStep wd ss) (.go ad)) W' ∧ Upd (SvM gs sa ra) w4 W' := by
  intro t
  induction t with
  | nil =>
    intro p bs ad W ht hbs hU hA
    have HU := isThere_any .nil (hf wd) p W (n0 := 0) ht.1
    have hs : someT .nil = false := rfl
    rw [hs] at HU
    have hr : (encsT wd .nil).foldl (svStep wd ss) (.go ad) = .go ad := rfl
    rw [hr]
    have hg : (SvR.go ad).isGo = true := rfl
    rw [hg]
    have HA : Hid (SvAt gs so sa ra base wd (.go ad) W) := hA
    clear hs hr hg hA ht hOld hKT hcs
    go_enter Tryz.func83, Tryz.ntmps83
    go_wp2_with (go_at_call 84; refine HU.mono ?_; rintro e w1 ⟨rfl, rfl⟩)
    go_ret
    exact ⟨rfl, HA.out, hU⟩
  | node l x r ihl ihr =>
    intro p bs ad W ht hbs hU hA
    have HU := fun w' h => isThere_any (.node l x r) (hf wd) p w' (n0 := 0) h
    have hs : someT (.node l x r) = true := rfl
    rw [hs] at HU
    clear hs
    have htW := (ht.upd hU hbs).ta
    have HU := HU W htW
    obtain ⟨b, pl, pr, bl, br, rfl, rfl, hge, hb, hl, hr⟩ := ht
    have hm : ∀ w' : World, (method 350 65 (.pointer (some ⟨b, 0, none⟩)) "loop.example/s03048/impl.subtrees").run Tryz.prog w' = .ok (166, .pointer (some ⟨b, 0, none⟩)) w' := fun _ => by kernel_rfl
    have H0 := fun w' => csv_no cs (some ⟨b, 0, none⟩) 0 (.inl rfl) w'
    have H1 := fun w' => csv_no cs (some ⟨b, 0, none⟩) 1 (.inr rfl) w'
    have hnb : ¬ SvM gs sa ra b := hbs b (by simp)
    have HS := subs_any b x pl pr _ W (hb.upd hU hnb)
    have he : (encT wd (.node l x r)).size ≤ 10000 := (encS_size x.1 x.2 (rootT wd l) (rootT wd r) wd).1
    have hbT : TB b x pl pr (encT wd (.node l x r), hashT wd (encT wd (.node l x r))) w4 := hb
    obtain ⟨E, hE⟩ : ∃ E, encT wd (.node l x r) = E := ⟨_, rfl⟩
    have henc : encsT wd (.node l x r) = encsT wd l ++ encsT wd r ++ [E] := by rw [← hE]; rfl
    rw [henc]
    rw [hE] at he hbT
    clear henc hE
    rw [List.foldl_append, List.foldl_append]
    have HL : Hid (∀ w0, Below W.heap.size W w0 → Calls Tryz.prog 83 #[.pointer pl, .func (.func 84) #[] #[], .func (.func 85) #[] #[.pointer (some ⟨cs, 0, none⟩)]] w0 fun e W' => e = .returned (.bool ((encsT wd l).foldl (svStep wd ss) (.go ad)).isGo) ∧ SvAt gs so sa ra base wd ((encsT wd l).foldl (svStep wd ss) (.go ad)) W' ∧ Upd (SvM gs sa ra) w4 W') := fun w0 hb0 => ihl pl bl ad w0 hl (fun k hk => hbs k (by simp [hk])) (hU.trans (Upd.of_below hb0)) (hA.below hb0)
    have HRr : Hid (∀ ad1 W1, Upd (SvM gs sa ra) w4 W1 → SvAt gs so sa ra base wd (.go ad1) W1 → Calls Tryz.prog 83 #[.pointer pr, .func (.func 84) #[] #[], .func (.func 85) #[] #[.pointer (some ⟨cs, 0, none⟩)]] W1 fun e W' => e = .returned (.bool ((encsT wd r).foldl (svStep wd ss) (.go ad1)).isGo) ∧ SvAt gs so sa ra base wd ((encsT wd r).foldl (svStep wd ss) (.go ad1)) W' ∧ Upd (SvM gs sa ra) w4 W') := fun ad1 W1 hU1 hA1 => ihr pr br ad1 W1 hr (fun k hk => hbs k (by simp [hk])) hU1 hA1
    have HY : Hid (∀ ad2 W2, Upd (SvM gs sa ra) w4 W2 → SvAt gs so sa ra base wd (.go ad2) W2 → Calls Tryz.prog 85 #[.pointer (some ⟨b, 0, none⟩), .int .i64 2, .pointer (some ⟨cs, 0, none⟩)] W2 fun e W' => e = .returned (.bool (svStep wd ss (.go ad2) E).isGo) ∧ SvAt gs so sa ra base wd (svStep wd ss (.go ad2) E) W' ∧ Upd (SvM gs sa ra) w4 W') := fun ad2 W2 hU2 hA2 => csv_yes cs gs b W2 (hU2.cell hcs hnc) _ (fun W' => SvAt gs so sa ra base wd (svStep wd ss (.go ad2) E) W' ∧ Upd (SvM gs sa ra) w4 W') (svTake_any HH gs so sa ra base wd ss ro bo ao co w4 hb4 hOld hKT hs1 hs2 hw1 hw2 hn1 hn2 hn3 b x pl pr E he hbT hnb ad2 W2 hU2 hA2)
    clear ihl ihr hl hr hb hbT he hA hcs hnc hOld hKT htW hbs hU hnb hge
    obtain ⟨R1, hR1⟩ : ∃ R1, (encsT wd l).foldl (svStep wd ss) (.go ad) = R1 := ⟨_, rfl⟩
    rw [hR1] at HL ⊢
    clear hR1
    by_cases g1 : R1.isGo = true
    · obtain ⟨ad1, rfl⟩ : ∃ ad1, R1 = .go ad1 := by cases R1 with
        | go ad1 => exact ⟨_, rfl⟩
        | full => cases g1
        | clash u e => cases g1
      have HR := fun W1 => HRr.out ad1 W1
      obtain ⟨R2, hR2⟩ : ∃ R2, (encsT wd r).foldl (svStep wd ss) (.go ad1) = R2 := ⟨_, rfl⟩
      rw [hR2] at HR ⊢
      have HR : Hid _ := HR
      rw [g1] at HL
      clear hR2 HRr g1
      by_cases g2 : R2.isGo = true
      · obtain ⟨ad2, rfl⟩ : ∃ ad2, R2 = .go ad2 := by cases R2 with
          | go ad2 => exact ⟨_, rfl⟩
          | full => cases g2
          | clash u e => cases g2
        rw [g2] at HR
        have HY2 : Hid _ := fun W2 => HY.out ad2 W2
        have hfo : [E].foldl (svStep wd ss) (.go ad2) = svStep wd ss (.go ad2) E := rfl
        rw [hfo]
        generalize svStep wd ss (.go ad2) E = R3 at HY2 ⊢
        clear HY hfo g2
        generalize R3.isGo = v at HY2 ⊢
        go_enter Tryz.func83, Tryz.ntmps83
        go_wp2_with (first | (go_at_call 84; refine HU.mono ?_; rintro e w1 ⟨rfl, rfl⟩) | (go_at_call_of 85 (Value.int .i64 0); refine (H0 _).mono ?_; rintro e w1 ⟨rfl, rfl⟩) | (go_at_call_of 85 (Value.int .i64 1); refine (H1 _).mono ?_; rintro e w1 ⟨rfl, rfl⟩) | (go_at_call 166; refine HS.mono ?_; rintro e w0 ⟨rfl, hb0⟩) | (go_at_call_of 83 (Value.pointer pl); refine (HL.out _ hb0).mono ?_; rintro e w1 ⟨rfl, ht1, hu1⟩) | (go_at_call_of 83 (Value.pointer pr); refine (HR.out _ hu1 ht1).mono ?_; rintro e w2 ⟨rfl, ht2, hu2⟩) | (go_at_call_of 85 (Value.int .i64 2); refine (HY2.out _ hu2 ht2).mono ?_; rintro e w3 ⟨rfl, ht3, hu3⟩))
        go_ret
        exact ⟨rfl, ht3, hu3⟩
      · rw [Bool.not_eq_true] at g2
        rw [sv_stuck wd ss _ R2 g2]
        rw [g2] at HR ⊢
        clear HY g2
        go_enter Tryz.func83, Tryz.ntmps83
        go_wp2_with (first | (go_at_call 84; refine HU.mono ?_; rintro e w1 ⟨rfl, rfl⟩) | (go_at_call_of 85 (Value.int .i64 0); refine (H0 _).mono ?_; rintro e w1 ⟨rfl, rfl⟩) | (go_at_call_of 85 (Value.int .i64 1); refine (H1 _).mono ?_; rintro e w1 ⟨rfl, rfl⟩) | (go_at_call 166; refine HS.mono ?_; rintro e w0 ⟨rfl, hb0⟩) | (go_at_call_of 83 (Value.pointer pl); refine (HL.out _ hb0).mono ?_; rintro e w1 ⟨rfl, ht1, hu1⟩) | (go_at_call_of 83 (Value.pointer pr); refine (HR.out _ hu1 ht1).mono ?_; rintro e w2 ⟨rfl, ht2, hu2⟩))
        go_ret
        exact ⟨rfl, ht2, hu2⟩
    · rw [Bool.not_eq_true] at g1
      rw [sv_stuck wd ss _ R1 g1, sv_stuck wd ss _ R1 g1]
      rw [g1] at HL ⊢
      clear HY HRr g1
      go_enter Tryz.func83, Tryz.ntmps83
      go_wp2_with (first | (go_at_call 84; refine HU.mono ?_; rintro e w1 ⟨rfl, rfl⟩) | (go_at_call_of 85 (Value.int .i64 0); refine (H0 _).mono ?_; rintro e w1 ⟨rfl, rfl⟩) | (go_at_call_of 85 (Value.int .i64 1); refine (H1 _).mono ?_; rintro e w1 ⟨rfl, rfl⟩) | (go_at_call 166; refine HS.mono ?_; rintro e w0 ⟨rfl, hb0⟩) | (go_at_call_of 83 (Value.pointer pl); refine (HL.out _ hb0).mono ?_; rintro e w1 ⟨rfl, ht1, hu1⟩))
      go_ret
      exact ⟨rfl, ht1, hu1⟩
end Go.Proofs.YtgicihmdcnelaaaGreatDoor
