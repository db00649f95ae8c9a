import Derived.Test.YtofglikppppjoacDoorZi
import Derived.Deep.AppendLies
import Derived.Deep.RegionLaw
namespace Go.Proofs.YtofglikppppjoacDoor
open Go.RowKit Go.Proofs.Sha

theorem own2_cells {w : World} {base g n : Nat} {v : Value} {xs : List Value} (h : w.ownsRow base 68 2 v n xs) (hv : v.ownBlock = some g) : base ≤ g ∧ g < w.heap.size ∧ ∃ cur, w.heap[g]? = some (.cells cur 68 (0, 0)) := by
  rcases h.2 with ⟨rfl, _⟩ | ⟨g', cap, cur, rfl, hb, hg, _⟩
  · cases hv
  · obtain rfl : g' = g := Option.some.inj hv
    exact ⟨hb, (Array.getElem?_eq_some_iff.1 hg).1, cur, hg⟩
theorem own2_kept {w w' : World} {base n : Nat} {v : Value} {xs : List Value} (h : w.ownsRow base 68 2 v n xs) (hk : ∀ g, v.ownBlock = some g → g < w.heap.size → w'.heap[g]? = w.heap[g]?) : w'.ownsRow base 68 2 v n xs := by
  refine ⟨h.1, ?_⟩
  rcases h.2 with ⟨h1, h2⟩ | ⟨g, cap, cur, hv, hb, hg, rest⟩
  · exact .inl ⟨h1, h2⟩
  · exact .inr ⟨g, cap, cur, hv, hb, (hk g (by rw [hv]; rfl) (Array.getElem?_eq_some_iff.1 hg).1).trans hg, rest⟩
/-- A list of pairs of one's own, in a variable that is captured. -/
structure PS (c base : Nat) (ps : List PairT) (a : Option Addr) (cap : Nat) (w : World) : Prop where
  blk : w.heap[c]? = some (.cells #[.slice a ps.length cap] 43)
  own : w.ownsRow base 68 2 (.slice a ps.length cap) ps.length (flatP ps)
  hc : c < base
  hb : base ≤ w.heap.size
theorem PS.below {c base : Nat} {ps : List PairT} {a : Option Addr} {cap : Nat} {w w' : World} (h : PS c base ps a cap w) (hb : Below w.heap.size w w') : PS c base ps a cap w' :=
  ⟨(hb.block c (Nat.lt_of_lt_of_le h.hc h.hb)).trans h.blk, own2_kept h.own (fun g _ hg => hb.block g hg), h.hc, Nat.le_trans h.hb hb.size⟩
/-- All below 'base' but 'c' is as it was. -/
abbrev Ub (base c : Nat) : World → World → Prop := Upd (fun k => k = c ∨ base ≤ k)
theorem Upd.of_grown {M : Nat → Prop} {w w' : World} {row : Option Nat} (h : w.grownBy w' row) (hM : ∀ g, row = some g → M g) : Upd M w w' :=
  ⟨h.os, h.tape, h.output, h.size, fun k hk hn => h.block k hk (fun e => hn (hM k e.symm))⟩
theorem isThere_any (t : Tr PairT) (f : Tr PairT → ByteArray × ByteArray) (p : Option Addr) (w : World) {n0 : Nat} (h : TA n0 f t p w) : Calls Tryd.prog 97 #[.pointer p] w fun e w' => e = .returned (.bool (someT t)) ∧ w' = w := by
  have hp := h.ptr
  cases t with
  | nil =>
    obtain rfl : p = none := h
    have q : (binOp .neq 71 (.pointer none) (.pointer none)).run Tryd.prog w = .ok (.bool false) w := by
      have := ptr_nil w
      simp only [binOp] at this ⊢
      cases hq : (Op.equal 71 (.pointer none) (.pointer none)).run Tryd.prog w <;> simp_all
    have hs : someT .nil = false := rfl
    rw [hs]
    clear hp hs
    go_enter Tryd.func97, Tryd.ntmps97
    go_wp2_with fail
    go_ret
    exact ⟨rfl, rfl⟩
  | node l x r =>
    obtain ⟨b, pl, pr, rfl, _, hb, _, _⟩ := h
    have q : (binOp .neq 71 (.pointer (some ⟨b, 0, none⟩)) (.pointer none)).run Tryd.prog w = .ok (.bool true) w := by
      have := ptr_some _ w hp
      simp only [binOp] at this ⊢
      cases hq : (Op.equal 71 (.pointer (some ⟨b, 0, none⟩)) (.pointer none)).run Tryd.prog w <;> simp_all
    have hs : someT (.node l x r) = true := rfl
    rw [hs]
    clear hp hb hs
    go_enter Tryd.func97, Tryd.ntmps97
    go_wp2_with fail
    go_ret
    exact ⟨rfl, rfl⟩
theorem cpo_no (c : Nat) (p : Option Addr) (i : Int) (hi : i = 0 ∨ i = 2) (w : World) : Calls Tryd.prog 98 #[.pointer p, .int .i64 i, .pointer (some ⟨c, 0, none⟩)] w fun e w' => e = .returned (.bool true) ∧ w' = w := by
  have hz : (i == 1) = false := by rcases hi with rfl | rfl <;> rfl
  go_enter Tryd.func98, Tryd.ntmps98
  go_wp2_with fail
  go_ret
  exact ⟨rfl, rfl⟩

set_option maxRecDepth 100000 in
set_option maxHeartbeats 1000000 in
theorem cpo_yes (c base b : Nat) (ps : List PairT) (a : Option Addr) (cap : Nat) (x : PairT) (l r : Option Addr) (e0 : ByteArray × ByteArray) (w : World) (h : PS c base ps a cap w) (hT : TB b x l r e0 w) (_hbc : b ≠ c) (hbb : b < base) (hlen : ps.length ≤ 100000) :
    Calls Tryd.prog 98 #[.pointer (some ⟨b, 0, none⟩), .int .i64 1, .pointer (some ⟨c, 0, none⟩)] w fun e w' => e = .returned (.bool true) ∧ (∃ a' cap', PS c base (ps ++ [x]) a' cap' w') ∧ Ub base c w w' := by
  obtain ⟨i0, hi0, hz0, hz1, hz2⟩ := info_parts2 info37
  have hblk := h.blk
  have own := h.own
  have hc := h.hc
  have hb := h.hb
  have c0 := hT.c0
  have c1 := hT.c1
  have cc := Lib.cell_of_heap hblk 0
  obtain ⟨xk, xv⟩ := x
  obtain ⟨n, hn⟩ : ∃ n, ps.length = n := ⟨_, rfl⟩
  rw [hn] at hblk own cc hlen
  have hfl : Hid (flatP (ps ++ [(xk, xv)]) = flatP ps ++ [.string xk, .string xv]) := flatP_app _ _
  have hln : Hid ((ps ++ [(xk, xv)]).length = n + 1) := by show _ = _; rw [List.length_append, hn]; rfl
  have hbB : Below w.heap.size w (w.drew.alloc (.cells #[.string xk, .string xv] 68)) := (Below.refl _ _).drew.alloc (Nat.le_refl _) _
  have hca : ∀ o, (w.alloc o).cell? ⟨c, 0, none⟩ = some (.slice a n cap) := fun o => (World.cell?_alloc_lt _ _ _ (by show c < _; omega)).trans cc
  have hcb : ∀ o, (w.alloc o).cell? ⟨b, 0, none⟩ = some (.string xk) ∧ (w.alloc o).cell? ⟨b, 1, none⟩ = some (.string xv) := fun o => ⟨(World.cell?_alloc_lt _ _ _ (by show b < _; omega)).trans c0, (World.cell?_alloc_lt _ _ _ (by show b < _; omega)).trans c1⟩
  clear hT h
  go_enter Tryd.func98, Tryd.ntmps98
  go_upto_region 2 with fail
  go_region_law ((refine step_append_lies _ (by rfl) (.tmp 8) (.tmp 13) 43 (by rfl) base 68 i0 (.agg #[.string ⟨#[]⟩, .string ⟨#[]⟩]) 2 32 Tryd.underlying43 hi0 hz0 hz1 hz2 (by rfl) (by decide) (.slice a n cap) n (flatP ps) (by rfl) (own.alloc _) ⟨w.heap.size, 0, none⟩ 1 1 [.string xk, .string xv] (by rfl) (by rfl) (World.news_of_block (heap_alloc_new w.drew _)) (by simp [Value.oneCell']) (by decide) (by unfold maxLen; omega) (by omega) (by simp; omega) (w.heap.size + 1) (by simp) ?_; intro g4 c4 w4 hown4 hgrow4 hat4 hlt4; have hlb4 := (hgrow4.block c (by simp; omega) (fun e => by have := (own2_cells own e.symm).1; omega)).trans ((hbB.block c (by omega)).trans hblk); have k1 := Lib.cell_of_heap hlb4 0; have f1 : w4.frozen? ⟨c, 0, none⟩ = false := by rw [World.frozen?, hlb4]; rfl))
  all_goals
    have hs4 := hgrow4.size
    have hbd : Below w.heap.size w ((w.alloc (.cells #[.string xk, .string xv] 68)).drew) := ((Below.refl _ _).alloc (Nat.le_refl _) _).drew
    have hu : Ub base c w (w4.setCell ⟨c, 0, none⟩ (.slice (some ⟨g4, 0, none⟩) (n + 1) c4)) := ((Upd.of_below hbd).trans (Upd.of_grown hgrow4 (fun g e => .inr (own2_cells own e).1))).setCell c 0 _ (.inl rfl)
    go_wp2_with fail
    go_ret
    refine ⟨rfl, ⟨some ⟨g4, 0, none⟩, c4, by rw [hln.out]; exact heap_setCell_same w4 c 0 _ 43 _ hlb4, by rw [hln.out, hfl.out]; exact own2_kept hown4 (fun g hv _ => Below.heap_setCell _ _ _ _ (by have e : g4 = g := Option.some.inj hv; have hg4 : base ≤ g4 := (own2_cells hown4 rfl).1; show g ≠ c; omega)), hc, Nat.le_trans hb hu.size⟩, hu⟩
/-- A tree whose blocks lie below 'base' and are not 'c'. -/
def TAb (base c : Nat) (f : Tr PairT → ByteArray × ByteArray) (t : Tr PairT) (p : Option Addr) (w : World) : Prop := ∃ bs, TAL 0 f t p bs w ∧ ∀ b ∈ bs, b < base ∧ b ≠ c
theorem TAb.upd {base c : Nat} {f : Tr PairT → ByteArray × ByteArray} {t : Tr PairT} {p : Option Addr} {w w' : World} (h : TAb base c f t p w) (hu : Ub base c w w') : TAb base c f t p w' := by
  obtain ⟨bs, h1, h2⟩ := h
  exact ⟨bs, h1.upd hu (fun b hb q => by have := h2 b hb; omega), h2⟩
theorem TAb.ta {base c : Nat} {f : Tr PairT → ByteArray × ByteArray} {t : Tr PairT} {p : Option Addr} {w : World} (h : TAb base c f t p w) : TA 0 f t p w := by
  obtain ⟨bs, h1, h2⟩ := h
  exact h1.ta

set_option maxRecDepth 100000 in
set_option maxHeartbeats 2000000 in
theorem walk_pairs (f : Tr PairT → ByteArray × ByteArray) (c base : Nat) : ∀ (t : Tr PairT) (p : Option Addr) (ps : List PairT) (a : Option Addr) (cap : Nat) (w : World), TAb base c f t p w → PS c base ps a cap w → ps.length + t.size ≤ 100000 →
    Calls Tryd.prog 93 #[.pointer p, .func (.func 97) #[] #[], .func (.func 98) #[] #[.pointer (some ⟨c, 0, none⟩)]] w fun e w' => e = .returned (.bool true) ∧ (∃ a' cap', PS c base (ps ++ t.inord) a' cap' w') ∧ Ub base c w w' := by
  intro t
  induction t with
  | nil =>
    intro p ps a cap w ht hp hn
    have HU := isThere_any .nil f p w ht.ta
    have hs : someT .nil = false := rfl
    rw [hs] at HU
    have HP : Hid (∃ a' cap', PS c base (ps ++ Tr.nil.inord) a' cap' w) := ⟨a, cap, by rw [Tr.inord, List.append_nil]; exact hp⟩
    clear hs ht hp hn
    go_enter Tryd.func93, Tryd.ntmps93
    go_wp2_with (go_at_call 97; refine HU.mono ?_; rintro e w1 ⟨rfl, rfl⟩)
    go_ret
    exact ⟨rfl, HP.out, Upd.refl _ _⟩
  | node l x r ihl ihr =>
    intro p ps a cap w ht hp hn
    have HU := isThere_any (.node l x r) f p w ht.ta
    have hs : someT (.node l x r) = true := rfl
    rw [hs] at HU
    clear hs
    obtain ⟨bs, ⟨b, pl, pr, bl, br, rfl, rfl, _, hb, hl, hr⟩, hbs⟩ := ht
    have hbb := hbs b (by simp)
    have tl : TAb base c f l pl w := ⟨bl, hl, fun k hk => hbs k (by simp [hk])⟩
    have tr : TAb base c f r pr w := ⟨br, hr, fun k hk => hbs k (by simp [hk])⟩
    have hm : ∀ w' : World, (method 306 71 (.pointer (some ⟨b, 0, none⟩)) "loop.example/s03048/impl.subtrees").run Tryd.prog w' = .ok (128, .pointer (some ⟨b, 0, none⟩)) w' := fun _ => by kernel_rfl
    have H0 := fun w' => cpo_no c (some ⟨b, 0, none⟩) 0 (.inl rfl) w'
    have H2 := fun w' => cpo_no c (some ⟨b, 0, none⟩) 2 (.inr rfl) w'
    have HS := subs_any b x pl pr _ w hb
    simp only [Tr.size] at hn
    have hll := Tr.inord_len l
    have HL : Hid (∀ w0, Below w.heap.size w w0 → Calls Tryd.prog 93 #[.pointer pl, .func (.func 97) #[] #[], .func (.func 98) #[] #[.pointer (some ⟨c, 0, none⟩)]] w0 fun e w' => e = .returned (.bool true) ∧ (∃ a' cap', PS c base (ps ++ l.inord) a' cap' w') ∧ Ub base c w w') := fun w0 hb0 => by
      refine (ihl pl ps a cap w0 (tl.upd (Upd.of_below hb0)) (hp.below hb0) (by omega)).mono ?_
      rintro e w' ⟨he, hT, hU⟩
      exact ⟨he, hT, (Upd.of_below hb0).trans hU⟩
    have H1 : Hid (∀ w1, Ub base c w w1 → (∃ a' cap', PS c base (ps ++ l.inord) a' cap' w1) → Calls Tryd.prog 98 #[.pointer (some ⟨b, 0, none⟩), .int .i64 1, .pointer (some ⟨c, 0, none⟩)] w1 fun e w' => e = .returned (.bool true) ∧ (∃ a' cap', PS c base (ps ++ l.inord ++ [x]) a' cap' w') ∧ Ub base c w w') := fun w1 hu1 ⟨a1, c1, hp1⟩ => by
      refine (cpo_yes c base b _ a1 c1 x pl pr _ w1 hp1 (hb.upd hu1 (fun q => by omega)) hbb.2 hbb.1 (by rw [List.length_append]; omega)).mono ?_
      rintro e w' ⟨he, hp2, hu2⟩
      exact ⟨he, hp2, hu1.trans hu2⟩
    have HR : Hid (∀ w1, Ub base c w w1 → (∃ a' cap', PS c base (ps ++ l.inord ++ [x]) a' cap' w1) → Calls Tryd.prog 93 #[.pointer pr, .func (.func 97) #[] #[], .func (.func 98) #[] #[.pointer (some ⟨c, 0, none⟩)]] w1 fun e w' => e = .returned (.bool true) ∧ (∃ a' cap', PS c base (ps ++ (Tr.node l x r).inord) a' cap' w') ∧ Ub base c w w') := fun w1 hu1 ⟨a1, c1, hp1⟩ => by
      refine (ihr pr _ a1 c1 w1 (tr.upd hu1) hp1 (by simp only [List.length_append, List.length_cons, List.length_nil]; omega)).mono ?_
      rintro e w' ⟨he, hT, hU⟩
      refine ⟨he, ?_, hu1.trans hU⟩
      have e2 : ps ++ l.inord ++ [x] ++ r.inord = ps ++ (Tr.node l x r).inord := by simp [Tr.inord]
      rw [← e2]; exact hT
    clear hb hl hr hbs hbb tl tr ihl ihr hp hn hll
    go_enter Tryd.func93, Tryd.ntmps93
    go_wp2_with (first | (go_at_call 97; refine HU.mono ?_; rintro e w1 ⟨rfl, rfl⟩) | (go_at_call_of 98 (Value.int .i64 0); refine (H0 _).mono ?_; rintro e w1 ⟨rfl, rfl⟩) | (go_at_call_of 98 (Value.int .i64 1); refine (H1.out _ hu1 hp1).mono ?_; rintro e w2 ⟨rfl, hp2, hu2⟩) | (go_at_call 128; refine HS.mono ?_; rintro e w0 ⟨rfl, hb0⟩) | (go_at_call_of 93 (Value.pointer pl); refine (HL.out _ hb0).mono ?_; rintro e w1 ⟨rfl, hp1, hu1⟩) | (go_at_call_of 93 (Value.pointer pr); refine (HR.out _ hu2 hp2).mono ?_; rintro e w3 ⟨rfl, hp3, hu3⟩) | (go_at_call_of 98 (Value.int .i64 2); refine (H2 _).mono ?_; rintro e w4 ⟨rfl, rfl⟩))
    go_ret
    exact ⟨rfl, hp3, hu3⟩
end Go.Proofs.YtofglikppppjoacDoor
namespace Go.Proofs.YtofglikppppjoacDoor
open Go.RowKit Go.Proofs.Sha

theorem own2_parg {w : World} {base cap : Nat} {a : Option Addr} {ps : List PairT} (h : w.ownsRow base 68 2 (.slice a ps.length cap) ps.length (flatP ps)) (hs : SmallP ps) : PArg a ps w := by
  refine ⟨hs.1, hs.2, fun hn => ?_⟩
  rcases h.2 with ⟨e, h0⟩ | ⟨g, cap', cur, e, hb, hg, q1, q2, q3, q4⟩
  · omega
  · simp only [Value.slice.injEq] at e
    obtain ⟨rfl, _, _⟩ := e
    refine ⟨g, 0, rfl, (Array.getElem?_eq_some_iff.1 hg).1, fun j hj => ?_⟩
    obtain ⟨e0, e1⟩ := flatP_get ps j hj
    rw [← q4] at e0 e1
    rw [List.getElem?_take, if_pos (by omega)] at e0 e1
    rw [Nat.zero_add]
    exact ⟨(Lib.cell_of_heap hg _).trans (by simpa using e0), (Lib.cell_of_heap hg _).trans (by simpa using e1)⟩
theorem alloc43z (w : World) : (Instr.alloc 43 true (.tuple #[])).run Tryd.prog w = .ok (.pointer (some ⟨w.heap.size, 0, none⟩)) (w.alloc (.cells #[.slice none 0 0] 43)) := by kernel_rfl

theorem pairsOf_any (f : Tr PairT → ByteArray × ByteArray) (t : Tr PairT) (p : Option Addr) (w : World) (ht : TA 0 f t p w) (hn : t.size ≤ 100000) (hsm : SmallP t.inord) :
    Calls Tryd.prog 75 #[.pointer p] w fun e w' => (∃ a cap, e = .returned (.slice a t.inord.length cap) ∧ PArg a t.inord w') ∧ Below w.heap.size w w' := by
  obtain ⟨bs, hb⟩ := ht.list
  have hlt := fun k hk => hb.lt k hk
  have hbA : Below w.heap.size w (w.alloc (.cells #[.slice none 0 0] 43)) := (Below.refl _ _).alloc (Nat.le_refl _) _
  have hP : PS w.heap.size (w.heap.size + 1) [] none 0 (w.alloc (.cells #[.slice none 0 0] 43)) := ⟨heap_alloc_new w _, ⟨rfl, .inl ⟨rfl, rfl⟩⟩, Nat.lt_succ_self _, by simp⟩
  have hT : TAb (w.heap.size + 1) w.heap.size f t p (w.alloc (.cells #[.slice none 0 0] 43)) := ⟨bs, hb.upd (M := fun _ => False) (Upd.of_below hbA) (fun _ _ q => q), fun k hk => by have := hlt k hk; omega⟩
  have HW := walk_pairs f w.heap.size (w.heap.size + 1) t p [] none 0 _ hT hP (by simp; omega)
  rw [List.nil_append] at HW
  have hmf : ∀ (fn : Fn) (first cap : Array Value) (w : World), (Instr.makeFunc fn first cap).run Tryd.prog w = .ok (.func fn first cap) w := fun _ _ _ _ => rfl
  clear hlt hb ht hP hT
  go_enter Tryd.func75, Tryd.ntmps75
  go_wp2_with (go_at_call 93; refine HW.mono ?_; rintro e w1 ⟨rfl, ⟨a1, c1, hp1⟩, hu1⟩; have hcell := Lib.cell_of_heap hp1.blk 0)
  go_ret
  exact ⟨⟨a1, c1, rfl, own2_parg hp1.own hsm⟩, hbA.trans (hu1.below (by simp) (fun k hk => by omega))⟩
set_option maxRecDepth 100000 in
set_option maxHeartbeats 1000000 in
theorem equal_any (a b : Option Addr) (ps qs : List PairT) (c d : Nat) (w : World) (h : PArg a ps w) (h' : PArg b qs w) :
    Calls Tryd.prog 74 #[.slice a ps.length c, .slice b qs.length d] w fun e w' => e = .returned (.bool (decide (ps = qs))) ∧ Below w.heap.size w w' := by
  have hn := h.le
  have hm := h'.le
  obtain ⟨R, hR⟩ : ∃ R, decide (ps = qs) = R := ⟨_, rfl⟩
  rw [hR]
  have HR : Hid (decide (ps = qs) = R) := hR
  clear hR
  obtain ⟨N, hN⟩ : ∃ N, ps.length = N := ⟨_, rfl⟩
  obtain ⟨M, hM⟩ : ∃ M, qs.length = M := ⟨_, rfl⟩
  rw [hN] at hn ⊢
  rw [hM] at hm ⊢
  by_cases hNM : N = M
  · subst hNM
    have hNl : Hid (ps.length = N) := hN
    have hMl : Hid (qs.length = N) := hM
    clear hN hM
    go_enter Tryd.func74, Tryd.ntmps74
    go_wp2_with fail
    go_loopw [13] (fun t wr => ∃ k : Nat, k ≤ N ∧ t = .int .i64 (k : Int) ∧ Hid (ps.take k = qs.take k) ∧ Below w.heap.size w wr) (fun t _ => N - (intOf t).toNat)
    case atStart => exact ⟨0, Nat.zero_le _, rfl, rfl, Below.refl _ _⟩
    case round =>
      obtain ⟨k, hk, rfl, hsame, hbw⟩ := hrel
      by_cases hlt : k < N
      · have z1 : decide ((k : Int) < (N : Int)) = true := by simp; omega
        have hx0 : (0 : Int) ≤ (k : Int) := Int.natCast_nonneg _
        have hx1 : (k : Int) < (N : Int) := by omega
        obtain ⟨b1, off1, rfl, hbl1, hc⟩ := (h.below hbw).at_ (by rw [hNl.out]; omega)
        obtain ⟨b2, off2, rfl, hbl2, hd⟩ := (h'.below hbw).at_ (by rw [hMl.out]; omega)
        obtain ⟨hc1, hc2⟩ := hc k (by rw [hNl.out]; exact hlt)
        obtain ⟨hd1, hd2⟩ := hd k (by rw [hMl.out]; exact hlt)
        have hkl : k < ps.length := by rw [hNl.out]; exact hlt
        have hkm : k < qs.length := by rw [hMl.out]; exact hlt
        have g1 := getD_lt ps k hkl
        have g2 := getD_lt qs k hkm
        have hstep : ps.getD k noPair = qs.getD k noPair → ps.take (k + 1) = qs.take (k + 1) := fun e => by
          rw [List.take_succ_eq_append_getElem hkl, List.take_succ_eq_append_getElem hkm, hsame.out, ← g1, ← g2, e]
        have hneq : ps.getD k noPair ≠ qs.getD k noPair → R = false := fun e => by
          rw [← HR.out]
          exact decide_eq_false fun q => e (by rw [q])
        clear g1 g2 hkl hkm hc hd
        obtain ⟨x, hx⟩ : ∃ x, ps.getD k noPair = x := ⟨_, rfl⟩
        obtain ⟨y, hy⟩ : ∃ y, qs.getD k noPair = y := ⟨_, rfl⟩
        rw [hx] at hc1 hc2
        rw [hy] at hd1 hd2
        rw [hx, hy] at hstep hneq
        clear hx hy
        obtain ⟨xk, xv⟩ := x
        obtain ⟨yk, yv⟩ := y
        dsimp only at hc1 hc2 hd1 hd2
        replace hstep : Hid _ := hstep
        replace hneq : Hid _ := hneq
        cases v1 : (xk.toList == yk.toList) with
        | false =>
          have hRf : Hid (R = false) := hneq.out (fun e => by
            have : xk = yk := congrArg Prod.fst e
            subst this
            rw [beq_self_eq_true] at v1
            cases v1)
          clear hstep hneq HR hsame
          go_wp2_with fail
          go_region_held3 (fun W => W.cell? ⟨b1, off1 + k * 2, none⟩ = some (.string xk) ∧ W.cell? ⟨b1, off1 + k * 2 + 1, none⟩ = some (.string xv) ∧ W.cell? ⟨b2, off2 + k * 2, none⟩ = some (.string yk) ∧ W.cell? ⟨b2, off2 + k * 2 + 1, none⟩ = some (.string yv)) (exact ⟨hc1, hc2, hd1, hd2⟩) (fail)
          go_wp2_with fail
          go_ret
          exact ⟨by rw [hRf.out]; rfl, hbw.drew⟩
        | true =>
          cases v2 : (xv.toList == yv.toList) with
          | false =>
            have hRf : Hid (R = false) := hneq.out (fun e => by
              have : xv = yv := congrArg Prod.snd e
              subst this
              rw [beq_self_eq_true] at v2
              cases v2)
            clear hstep hneq HR hsame
            go_wp2_with fail
            go_region_held3 (fun W => W.cell? ⟨b1, off1 + k * 2, none⟩ = some (.string xk) ∧ W.cell? ⟨b1, off1 + k * 2 + 1, none⟩ = some (.string xv) ∧ W.cell? ⟨b2, off2 + k * 2, none⟩ = some (.string yk) ∧ W.cell? ⟨b2, off2 + k * 2 + 1, none⟩ = some (.string yv)) (exact ⟨hc1, hc2, hd1, hd2⟩) (fail)
            go_wp2_with fail
            go_ret
            exact ⟨by rw [hRf.out]; rfl, hbw.drew⟩
          | true =>
            have e1 : xk = yk := ByteArray.ext (Array.toList_inj.1 (by rw [beq_iff_eq, ByteArray.toList_eq, ByteArray.toList_eq] at v1; exact v1))
            have e2 : xv = yv := ByteArray.ext (Array.toList_inj.1 (by rw [beq_iff_eq, ByteArray.toList_eq, ByteArray.toList_eq] at v2; exact v2))
            have hs' : Hid (ps.take (k + 1) = qs.take (k + 1)) := hstep.out (by rw [e1, e2])
            clear hstep hneq HR hsame e1 e2
            go_wp2_with fail
            go_region_held3 (fun W => W.cell? ⟨b1, off1 + k * 2, none⟩ = some (.string xk) ∧ W.cell? ⟨b1, off1 + k * 2 + 1, none⟩ = some (.string xv) ∧ W.cell? ⟨b2, off2 + k * 2, none⟩ = some (.string yk) ∧ W.cell? ⟨b2, off2 + k * 2 + 1, none⟩ = some (.string yv)) (exact ⟨hc1, hc2, hd1, hd2⟩) (fail)
            go_wp2_with fail
            go_roundw
            case rel => exact ⟨k + 1, hlt, by go_num, hs', hbw.drew⟩
            case measure => simp [intOf]; omega
      · obtain rfl : k = N := by omega
        have z1 : decide ((k : Int) < (k : Int)) = false := by simp
        have hRt : Hid (R = true) := by
          show R = true
          rw [← HR.out, decide_eq_true_eq]
          have e := hsame.out
          rw [List.take_of_length_le (by rw [hNl.out]; exact Nat.le_refl _), List.take_of_length_le (by rw [hMl.out]; exact Nat.le_refl _)] at e
          exact e
        clear hsame HR
        go_wp2_with fail
        go_ret
        exact ⟨by rw [hRt.out]; rfl, hbw⟩
  · have z0 : ((N : Int) != (M : Int)) = true := by rw [bne_iff_ne]; omega
    have hRf : Hid (R = false) := by
      show R = false
      rw [← HR.out]
      exact decide_eq_false fun e => hNM (by rw [← hN, ← hM, e])
    clear HR hN hM
    go_enter Tryd.func74, Tryd.ntmps74
    go_wp2_with fail
    go_ret
    exact ⟨by rw [hRf.out]; rfl, Below.refl _ _⟩
end Go.Proofs.YtofglikppppjoacDoor
namespace Go.Proofs.YtofglikppppjoacDoor
open Go.RowKit Go.Proofs.Sha

set_option maxRecDepth 100000 in
set_option maxHeartbeats 1000000 in
theorem differ_any (f : Tr PairT → ByteArray × ByteArray) (s t : Tr PairT) (p q : Option Addr) (w : World) (hs : TA 0 f s p w) (ht : TA 0 f t q w) (hn : s.size ≤ 100000) (hm : t.size ≤ 100000) (ss : SmallP s.inord) (st : SmallP t.inord) :
    Calls Tryd.prog 52 #[.agg #[.pointer p, .pointer q]] w fun e w' => e = .returned (.bool (!decide (s.inord = t.inord))) ∧ Below w.heap.size w w' := by
  have hbA : Below w.heap.size w (w.alloc (.cells #[.pointer p, .pointer q] 76)) := (Below.refl _ _).alloc (Nat.le_refl _) _
  have nA := heap_alloc_new w (.cells #[.pointer p, .pointer q] 76)
  have HP : Hid (∀ w', Below w.heap.size w w' → Calls Tryd.prog 75 #[.pointer p] w' fun e w'' => (∃ a cap, e = .returned (.slice a s.inord.length cap) ∧ PArg a s.inord w'') ∧ Below w'.heap.size w' w'') := fun w' hb => pairsOf_any f s p w' (hs.below hb (Nat.le_refl _)) hn ss
  have HQ : Hid (∀ w', Below w.heap.size w w' → Calls Tryd.prog 75 #[.pointer q] w' fun e w'' => (∃ a cap, e = .returned (.slice a t.inord.length cap) ∧ PArg a t.inord w'') ∧ Below w'.heap.size w' w'') := fun w' hb => pairsOf_any f t q w' (ht.below hb (Nat.le_refl _)) hm st
  have HE : Hid (∀ w' a c b d, PArg a s.inord w' → PArg b t.inord w' → Calls Tryd.prog 74 #[.slice a s.inord.length c, .slice b t.inord.length d] w' fun e w'' => e = .returned (.bool (decide (s.inord = t.inord))) ∧ Below w'.heap.size w' w'') := fun w' a c b d h1 h2 => equal_any a b _ _ c d w' h1 h2
  clear hs ht hn hm ss st
  generalize hI : s.inord = I at HP HE
  generalize hJ : t.inord = J at HQ HE
  clear hI hJ
  generalize decide (I = J) = D at HE
  generalize I.length = n1 at HP HE
  generalize J.length = n2 at HQ HE
  obtain ⟨ga, hga⟩ : ∃ ga, w.heap.size = ga := ⟨_, rfl⟩
  rw [hga] at nA
  go_enter Tryd.func52, Tryd.ntmps52
  go_upto_region 1 with fail
  try rw [hga]
  have HS : Hid (∀ W : World, Below (w.heap.size + 1) (w.alloc (.cells #[.pointer p, .pointer q] 76)) W → W.cell? ⟨ga, 0, none⟩ = some (.pointer p) ∧ W.cell? ⟨ga, 1, none⟩ = some (.pointer q)) := fun W hW => by
    have e := (hW.block ga (by omega)).trans nA
    exact ⟨Lib.cell_of_heap e 0, Lib.cell_of_heap e 1⟩
  have hsz : (w.alloc (.cells #[.pointer p, .pointer q] 76)).heap.size = w.heap.size + 1 := by simp
  generalize w.alloc (.cells #[.pointer p, .pointer q] 76) = wa at hbA nA HS hsz ⊢
  rw [← hsz] at HS
  go_region_held3 (fun W => W.cell? ⟨ga, 0, none⟩ = some (.pointer p) ∧ W.cell? ⟨ga, 1, none⟩ = some (.pointer q)) (first | exact HS.out _ (Below.refl _ _).drew | exact HS.out _ hb1 | exact HS.out _ hb2 | exact HS.out _ hb3) (first | (go_at_call_of 75 (Value.pointer p); refine (HP.out _ hbA.drew).mono ?_; rintro e w1 ⟨⟨a1, c1, rfl, hp1⟩, hb1'⟩; have hb1 : Below wa.heap.size wa w1 := (Below.refl wa.heap.size wa).drew.trans hb1'; have hw1 : Below w.heap.size w w1 := hbA.trans (hb1.mono hbA.size)) | (go_at_call_of 75 (Value.pointer q); refine (HQ.out _ hw1).mono ?_; rintro e w2 ⟨⟨a2, c2, rfl, hp2⟩, hb2'⟩; have hb2 : Below wa.heap.size wa w2 := hb1.trans (hb2'.mono hb1.size)) | (go_at_call 74; refine (HE.out _ _ _ _ _ (hp1.below hb2') hp2).mono ?_; rintro e w3 ⟨rfl, hb3'⟩; have hb3 : Below wa.heap.size wa w3 := hb2.trans (hb3'.mono hb2.size)))
  go_wp2_with fail
  go_ret
  exact ⟨rfl, hbA.trans (hb3.mono hbA.size)⟩
theorem encOf_any (b : Nat) (x : PairT) (l r : Option Addr) (e : ByteArray × ByteArray) (w : World) (h : TB b x l r e w) : Calls Tryd.prog 127 #[.pointer (some ⟨b, 0, none⟩)] w fun y w' => y = .returned (.string e.1) ∧ w' = w := by
  have c := h.c37
  clear h
  go_enter Tryd.func127, Tryd.ntmps127
  go_wp2_with fail
  go_ret
  exact ⟨rfl, rfl⟩
/-- What is hashed of an encoding. -/
def txt (e : ByteArray) : ByteArray := ⟨#[78]⟩ ++ e
theorem textOf_any (e : ByteArray) (w : World) (he : e.size ≤ 1048576) : Calls Tryd.prog 73 #[.string e] w fun y w' => y = .returned (.string (txt e)) ∧ w' = w := by
  have z : ¬ (9223372036854775807 < (⟨#[78]⟩ : ByteArray).size + e.size) := by show ¬ _ < 1 + e.size; omega
  have z' : ¬ (9223372036854775807 < 1 + e.size) := by omega
  unfold txt
  go_enter Tryd.func73, Tryd.ntmps73
  go_wp2_with fail
  go_ret
  exact ⟨rfl, rfl⟩
set_option maxRecDepth 100000 in
set_option maxHeartbeats 1000000 in
theorem bsubs_any (b1 b2 : Nat) (x y : PairT) (l1 r1 l2 r2 : Option Addr) (e1 e2 : ByteArray × ByteArray) (w : World) (h1 : TB b1 x l1 r1 e1 w) (h2 : TB b2 y l2 r2 e2 w) :
    Calls Tryd.prog 129 #[.agg #[.pointer (some ⟨b1, 0, none⟩), .pointer (some ⟨b2, 0, none⟩)]] w fun e w' => e = .returned (.tuple #[.agg #[.pointer l1, .pointer l2], .agg #[.pointer r1, .pointer r2]]) ∧ Below w.heap.size w w' := by
  have hm1 : ∀ w' : World, (method 306 71 (.pointer (some ⟨b1, 0, none⟩)) "loop.example/s03048/impl.subtrees").run Tryd.prog w' = .ok (128, .pointer (some ⟨b1, 0, none⟩)) w' := fun _ => by kernel_rfl
  have hm2 : ∀ w' : World, (method 306 71 (.pointer (some ⟨b2, 0, none⟩)) "loop.example/s03048/impl.subtrees").run Tryd.prog w' = .ok (128, .pointer (some ⟨b2, 0, none⟩)) w' := fun _ => by kernel_rfl
  have H1 : Hid (∀ w', Below w.heap.size w w' → Calls Tryd.prog 128 #[.pointer (some ⟨b1, 0, none⟩)] w' fun e w'' => e = .returned (.tuple #[.pointer l1, .pointer r1]) ∧ Below w'.heap.size w' w'') := fun w' h => subs_any b1 x l1 r1 e1 w' (h1.below h (Nat.le_refl _))
  have H2 : Hid (∀ w', Below w.heap.size w w' → Calls Tryd.prog 128 #[.pointer (some ⟨b2, 0, none⟩)] w' fun e w'' => e = .returned (.tuple #[.pointer l2, .pointer r2]) ∧ Below w'.heap.size w' w'') := fun w' h => subs_any b2 y l2 r2 e2 w' (h2.below h (Nat.le_refl _))
  clear h1 h2
  obtain ⟨W, hW⟩ : ∃ W, ((w.alloc (.cells #[.pointer (some ⟨b1, 0, none⟩), .pointer (some ⟨b2, 0, none⟩)] 76)).alloc (.cells #[.pointer none, .pointer none] 76)).alloc (.cells #[.pointer none, .pointer none] 76) = W := ⟨_, rfl⟩
  have hbA : Below w.heap.size w W := by rw [← hW]; exact (((Below.refl _ _).alloc (Nat.le_refl _) _).alloc (by simp) _).alloc (by simp; omega) _
  have n0 : W.heap[w.heap.size]? = some (.cells #[.pointer (some ⟨b1, 0, none⟩), .pointer (some ⟨b2, 0, none⟩)] 76) := by
    rw [← hW, Below.heap_alloc _ _ _ (by simp; omega), Below.heap_alloc _ _ _ (by simp)]; exact heap_alloc_new w _
  have n1 : W.heap[w.heap.size + 1]? = some (.cells #[.pointer none, .pointer none] 76) := by
    have := heap_alloc_new (w.alloc (.cells #[.pointer (some ⟨b1, 0, none⟩), .pointer (some ⟨b2, 0, none⟩)] 76)) (.cells #[.pointer none, .pointer none] 76)
    rw [← hW, Below.heap_alloc _ _ _ (by simp)]; simpa using this
  have n2 : W.heap[w.heap.size + 1 + 1]? = some (.cells #[.pointer none, .pointer none] 76) := by
    have := heap_alloc_new ((w.alloc (.cells #[.pointer (some ⟨b1, 0, none⟩), .pointer (some ⟨b2, 0, none⟩)] 76)).alloc (.cells #[.pointer none, .pointer none] 76)) (.cells #[.pointer none, .pointer none] 76)
    rw [← hW]; simpa using this
  have hsz : W.heap.size = w.heap.size + 1 + 1 + 1 := by rw [← hW]; simp
  go_enter Tryd.func129, Tryd.ntmps129
  go_upto_region 1 with fail
  try rw [hW]
  clear hW
  obtain ⟨ga, hga⟩ : ∃ ga, w.heap.size = ga := ⟨_, rfl⟩
  rw [hga] at n0 n1 n2 hsz ⊢
  have k0 := Lib.cell_of_heap n0 0
  go_wp2_with (first | (go_at_call_of 128 (Value.pointer (some ⟨b1, 0, none⟩)); refine (H1.out _ hbA).mono ?_; rintro e w1 ⟨rfl, hb1'⟩; have k1 := Lib.cell_of_heap ((hb1'.block ga (by omega)).trans n0) 1) | (go_at_call_of 128 (Value.pointer (some ⟨b2, 0, none⟩)); refine (H2.out _ (hbA.trans (hb1'.mono hbA.size))).mono ?_; rintro e w2 ⟨rfl, hb2'⟩; have hb2 : Below W.heap.size W w2 := hb1'.trans (hb2'.mono hb1'.size); have m1 := (hb2.block (ga + 1) (by omega)).trans n1; have m2 := (hb2.block (ga + 1 + 1) (by omega)).trans n2; have d10 := Lib.cell_of_heap m1 0; have d11 := Lib.cell_of_heap m1 1; have d20 := Lib.cell_of_heap m2 0; have d21 := Lib.cell_of_heap m2 1; have f10 : ∀ j, w2.frozen? ⟨ga + 1, j, none⟩ = false := fun j => by { rw [World.frozen?, m1]; rfl }; have f20 : ∀ j, w2.frozen? ⟨ga + 1 + 1, j, none⟩ = false := fun j => by { rw [World.frozen?, m2]; rfl }))
  have hb3 : Below ga w ((((w2.setCell ⟨ga + 1, 0, none⟩ (.pointer l1)).setCell ⟨ga + 1, 1, none⟩ (.pointer l2)).setCell ⟨ga + 1 + 1, 0, none⟩ (.pointer r1)).setCell ⟨ga + 1 + 1, 1, none⟩ (.pointer r2)) := ((((hbA.trans (hb2.mono hbA.size)).mono (by omega)).setCell (by show ga ≤ ga + 1; omega) _).setCell (by show ga ≤ ga + 1; omega) _).setCell (by show ga ≤ ga + 1 + 1; omega) _ |>.setCell (by show ga ≤ ga + 1 + 1; omega) _
  have e1 : ((((w2.setCell ⟨ga + 1, 0, none⟩ (.pointer l1)).setCell ⟨ga + 1, 1, none⟩ (.pointer l2)).setCell ⟨ga + 1 + 1, 0, none⟩ (.pointer r1)).setCell ⟨ga + 1 + 1, 1, none⟩ (.pointer r2)).heap[ga + 1]? = some (.cells #[.pointer l1, .pointer l2] 76) := by
    rw [Below.heap_setCell _ _ _ _ (by show ga + 1 ≠ ga + 1 + 1; omega), Below.heap_setCell _ _ _ _ (by show ga + 1 ≠ ga + 1 + 1; omega)]
    exact heap_setCell_same _ (ga + 1) 1 _ 76 _ (heap_setCell_same w2 (ga + 1) 0 _ 76 (.pointer l1) m1)
  have e2 : ((((w2.setCell ⟨ga + 1, 0, none⟩ (.pointer l1)).setCell ⟨ga + 1, 1, none⟩ (.pointer l2)).setCell ⟨ga + 1 + 1, 0, none⟩ (.pointer r1)).setCell ⟨ga + 1 + 1, 1, none⟩ (.pointer r2)).heap[ga + 1 + 1]? = some (.cells #[.pointer r1, .pointer r2] 76) := by
    refine heap_setCell_same _ (ga + 1 + 1) 1 _ 76 _ (heap_setCell_same _ (ga + 1 + 1) 0 #[.pointer none, .pointer none] 76 (.pointer r1) ?_)
    rw [Below.heap_setCell _ _ _ _ (by show ga + 1 + 1 ≠ ga + 1; omega), Below.heap_setCell _ _ _ _ (by show ga + 1 + 1 ≠ ga + 1; omega)]
    exact m2
  generalize (((w2.setCell ⟨ga + 1, 0, none⟩ (.pointer l1)).setCell ⟨ga + 1, 1, none⟩ (.pointer l2)).setCell ⟨ga + 1 + 1, 0, none⟩ (.pointer r1)).setCell ⟨ga + 1 + 1, 1, none⟩ (.pointer r2) = w5 at hb3 e1 e2 ⊢
  have q1 := Lib.cell_of_heap e1 0
  have q2 := Lib.cell_of_heap e1 1
  have q3 := Lib.cell_of_heap e2 0
  have q4 := Lib.cell_of_heap e2 1
  refine bodyPost_ret (v := .tuple #[.agg #[.pointer l1, .pointer l2], .agg #[.pointer r1, .pointer r2]]) ?_ rfl ⟨rfl, ?_⟩
  · simp [results, Tryd.results129, go_sem, q1, q2, q3, q4]
  · rw [hga]; exact hb3
end Go.Proofs.YtofglikppppjoacDoor
namespace Go.Proofs.YtofglikppppjoacDoor
open Go.RowKit Go.Proofs.Sha

/-- The two texts that a walk looks for, in captured variables. -/
structure AB (ca cb : Nat) (sa sb : ByteArray) (w : World) : Prop where
  ha : w.heap[ca]? = some (.cells #[.string sa] 9)
  hb : w.heap[cb]? = some (.cells #[.string sb] 9)
  ne : ca ≠ cb
theorem AB.below {ca cb : Nat} {sa sb : ByteArray} {w w' : World} (h : AB ca cb sa sb w) (hb : Below w.heap.size w w') : AB ca cb sa sb w' :=
  ⟨(hb.block ca (Array.getElem?_eq_some_iff.1 h.ha).1).trans h.ha, (hb.block cb (Array.getElem?_eq_some_iff.1 h.hb).1).trans h.hb, h.ne⟩
theorem txt_ne (e : ByteArray) : (txt e).toList.isEmpty = false := by
  rw [ByteArray.toList_eq]
  unfold txt
  rw [ByteArray.data_append]
  simp

set_option maxRecDepth 100000 in
set_option maxHeartbeats 1000000 in
theorem tw_same (b1 b2 : Nat) (x y : PairT) (l1 r1 l2 r2 : Option Addr) (E h1 h2 : ByteArray) (ca cb : Nat) (i : Int) (w : World) (t1 : TB b1 x l1 r1 (E, h1) w) (t2 : TB b2 y l2 r2 (E, h2) w) (hab : AB ca cb ⟨#[]⟩ ⟨#[]⟩ w) :
    Calls Tryd.prog 72 #[.agg #[.pointer (some ⟨b1, 0, none⟩), .pointer (some ⟨b2, 0, none⟩)], .int .i64 i, .pointer (some ⟨ca, 0, none⟩), .pointer (some ⟨cb, 0, none⟩)] w fun e w' => e = .returned (.bool true) ∧ Below w.heap.size w w' := by
  have hm1 : ∀ w' : World, (method 306 71 (.pointer (some ⟨b1, 0, none⟩)) "loop.example/s03048/impl.encoding").run Tryd.prog w' = .ok (127, .pointer (some ⟨b1, 0, none⟩)) w' := fun _ => by kernel_rfl
  have hm2 : ∀ w' : World, (method 306 71 (.pointer (some ⟨b2, 0, none⟩)) "loop.example/s03048/impl.encoding").run Tryd.prog w' = .ok (127, .pointer (some ⟨b2, 0, none⟩)) w' := fun _ => by kernel_rfl
  have H1 : Hid (∀ w', Below w.heap.size w w' → Calls Tryd.prog 127 #[.pointer (some ⟨b1, 0, none⟩)] w' fun e w'' => e = .returned (.string E) ∧ w'' = w') := fun w' h => encOf_any b1 x l1 r1 _ w' (t1.below h (Nat.le_refl _))
  have H2 : Hid (∀ w', Below w.heap.size w w' → Calls Tryd.prog 127 #[.pointer (some ⟨b2, 0, none⟩)] w' fun e w'' => e = .returned (.string E) ∧ w'' = w') := fun w' h => encOf_any b2 y l2 r2 _ w' (t2.below h (Nat.le_refl _))
  have hbA : Below w.heap.size w (w.alloc (.cells #[.pointer (some ⟨b1, 0, none⟩), .pointer (some ⟨b2, 0, none⟩)] 76)) := (Below.refl _ _).alloc (Nat.le_refl _) _
  have nA := heap_alloc_new w (.cells #[.pointer (some ⟨b1, 0, none⟩), .pointer (some ⟨b2, 0, none⟩)] 76)
  have hca := Lib.cell_of_heap (hab.below hbA).ha 0
  obtain ⟨ga, hga⟩ : ∃ ga, w.heap.size = ga := ⟨_, rfl⟩
  rw [hga] at nA
  clear t1 t2 hab
  go_enter Tryd.func72, Tryd.ntmps72
  go_upto_region 1 with fail
  try rw [hga]
  have k0 := Lib.cell_of_heap nA 0
  have k1 := Lib.cell_of_heap nA 1
  generalize w.alloc (.cells #[.pointer (some ⟨b1, 0, none⟩), .pointer (some ⟨b2, 0, none⟩)] 76) = wa at hbA nA hca k0 k1 ⊢
  go_region_held3 (fun W => W.cell? ⟨ga, 0, none⟩ = some (.pointer (some ⟨b1, 0, none⟩)) ∧ W.cell? ⟨ga, 1, none⟩ = some (.pointer (some ⟨b2, 0, none⟩))) (first | exact ⟨k0, k1⟩) (first | (go_at_call_of 127 (Value.pointer (some ⟨b1, 0, none⟩)); refine (H1.out _ hbA.drew).mono ?_; rintro e w1 ⟨rfl, rfl⟩) | (go_at_call_of 127 (Value.pointer (some ⟨b2, 0, none⟩)); refine (H2.out _ hbA.drew).mono ?_; rintro e w1 ⟨rfl, rfl⟩))
  go_wp2_with fail
  go_ret
  exact ⟨rfl, hbA.drew⟩

set_option maxRecDepth 100000 in
set_option maxHeartbeats 2000000 in
theorem tw_diff (b1 b2 : Nat) (x y : PairT) (l1 r1 l2 r2 : Option Addr) (E F h1 h2 sa sb : ByteArray) (hEF : E ≠ F) (hE : E.size ≤ 1048576) (hF : F.size ≤ 1048576) (ca cb : Nat) (i : Int) (w : World) (t1 : TB b1 x l1 r1 (E, h1) w) (t2 : TB b2 y l2 r2 (F, h2) w) (hab : AB ca cb sa sb w) :
    Calls Tryd.prog 72 #[.agg #[.pointer (some ⟨b1, 0, none⟩), .pointer (some ⟨b2, 0, none⟩)], .int .i64 i, .pointer (some ⟨ca, 0, none⟩), .pointer (some ⟨cb, 0, none⟩)] w fun e w' => e = .returned (.bool false) ∧ AB ca cb (txt E) (txt F) w' ∧ Upd (fun k => k = ca ∨ k = cb) w w' := by
  have hm1 : ∀ w' : World, (method 306 71 (.pointer (some ⟨b1, 0, none⟩)) "loop.example/s03048/impl.encoding").run Tryd.prog w' = .ok (127, .pointer (some ⟨b1, 0, none⟩)) w' := fun _ => by kernel_rfl
  have hm2 : ∀ w' : World, (method 306 71 (.pointer (some ⟨b2, 0, none⟩)) "loop.example/s03048/impl.encoding").run Tryd.prog w' = .ok (127, .pointer (some ⟨b2, 0, none⟩)) w' := fun _ => by kernel_rfl
  have H1 : Hid (∀ w', Below w.heap.size w w' → Calls Tryd.prog 127 #[.pointer (some ⟨b1, 0, none⟩)] w' fun e w'' => e = .returned (.string E) ∧ w'' = w') := fun w' h => encOf_any b1 x l1 r1 _ w' (t1.below h (Nat.le_refl _))
  have H2 : Hid (∀ w', Below w.heap.size w w' → Calls Tryd.prog 127 #[.pointer (some ⟨b2, 0, none⟩)] w' fun e w'' => e = .returned (.string F) ∧ w'' = w') := fun w' h => encOf_any b2 y l2 r2 _ w' (t2.below h (Nat.le_refl _))
  have HX : Hid (∀ w', Calls Tryd.prog 73 #[.string E] w' fun e w'' => e = .returned (.string (txt E)) ∧ w'' = w') := fun w' => textOf_any E w' hE
  have HY : Hid (∀ w', Calls Tryd.prog 73 #[.string F] w' fun e w'' => e = .returned (.string (txt F)) ∧ w'' = w') := fun w' => textOf_any F w' hF
  have hne : (E.toList == F.toList) = false := str_ne hEF
  have hte := txt_ne E
  have hbA : Below w.heap.size w (w.alloc (.cells #[.pointer (some ⟨b1, 0, none⟩), .pointer (some ⟨b2, 0, none⟩)] 76)) := (Below.refl _ _).alloc (Nat.le_refl _) _
  have nA := heap_alloc_new w (.cells #[.pointer (some ⟨b1, 0, none⟩), .pointer (some ⟨b2, 0, none⟩)] 76)
  have hA := (hab.below hbA)
  have hla := (Array.getElem?_eq_some_iff.1 hab.ha).1
  have hlb := (Array.getElem?_eq_some_iff.1 hab.hb).1
  obtain ⟨ga, hga⟩ : ∃ ga, w.heap.size = ga := ⟨_, rfl⟩
  rw [hga] at nA hla hlb
  clear t1 t2 hab hEF
  generalize txt E = X at HX hte ⊢
  generalize txt F = Y at HY ⊢
  go_enter Tryd.func72, Tryd.ntmps72
  go_upto_region 1 with fail
  try rw [hga]
  have k0 := Lib.cell_of_heap nA 0
  have k1 := Lib.cell_of_heap nA 1
  generalize w.alloc (.cells #[.pointer (some ⟨b1, 0, none⟩), .pointer (some ⟨b2, 0, none⟩)] 76) = wa at hbA nA hA k0 k1 ⊢
  go_region_held3 (fun W => W.cell? ⟨ga, 0, none⟩ = some (.pointer (some ⟨b1, 0, none⟩)) ∧ W.cell? ⟨ga, 1, none⟩ = some (.pointer (some ⟨b2, 0, none⟩))) (first | exact ⟨k0, k1⟩) (first | (go_at_call_of 127 (Value.pointer (some ⟨b1, 0, none⟩)); refine (H1.out _ hbA.drew).mono ?_; rintro e w1 ⟨rfl, rfl⟩) | (go_at_call_of 127 (Value.pointer (some ⟨b2, 0, none⟩)); refine (H2.out _ hbA.drew).mono ?_; rintro e w1 ⟨rfl, rfl⟩))
  go_upto_region 2 with fail
  have hb1 : Below w.heap.size w wa.drew := hbA.drew
  have hA1 : AB ca cb sa sb wa.drew := ⟨hA.ha, hA.hb, hA.ne⟩
  have nA1 : wa.drew.heap[ga]? = some (.cells #[.pointer (some ⟨b1, 0, none⟩), .pointer (some ⟨b2, 0, none⟩)] 76) := nA
  clear hbA hA nA k0 k1
  generalize wa.drew = wb at hb1 hA1 nA1 ⊢
  have k0 := Lib.cell_of_heap nA1 0
  have k1 := Lib.cell_of_heap nA1 1
  have ka := Lib.cell_of_heap hA1.ha 0
  have kb := Lib.cell_of_heap hA1.hb 0
  have fa : wb.frozen? ⟨ca, 0, none⟩ = false := by rw [World.frozen?, hA1.ha]; rfl
  have fb : wb.frozen? ⟨cb, 0, none⟩ = false := by rw [World.frozen?, hA1.hb]; rfl
  have hcc := hA1.ne
  have hs1 : Hid (∀ va, (wb.setCell ⟨ca, 0, none⟩ va).cell? ⟨ga, 0, none⟩ = some (.pointer (some ⟨b1, 0, none⟩)) ∧ (wb.setCell ⟨ca, 0, none⟩ va).cell? ⟨ga, 1, none⟩ = some (.pointer (some ⟨b2, 0, none⟩))) := fun va => ⟨(cell_set_far wb ca 0 ga 0 va (by omega)).trans k0, (cell_set_far wb ca 0 ga 1 va (by omega)).trans k1⟩
  have hs2 : Hid (∀ va vb, ((wb.setCell ⟨ca, 0, none⟩ va).setCell ⟨cb, 0, none⟩ vb).cell? ⟨ga, 0, none⟩ = some (.pointer (some ⟨b1, 0, none⟩)) ∧ ((wb.setCell ⟨ca, 0, none⟩ va).setCell ⟨cb, 0, none⟩ vb).cell? ⟨ga, 1, none⟩ = some (.pointer (some ⟨b2, 0, none⟩))) := fun va vb => ⟨(cell_set_far _ cb 0 ga 0 vb (by omega)).trans (hs1.out va).1, (cell_set_far _ cb 0 ga 1 vb (by omega)).trans (hs1.out va).2⟩
  go_region_held3 (fun W => W.cell? ⟨ga, 0, none⟩ = some (.pointer (some ⟨b1, 0, none⟩)) ∧ W.cell? ⟨ga, 1, none⟩ = some (.pointer (some ⟨b2, 0, none⟩))) (first | exact ⟨k0, k1⟩ | exact hs1.out _ | exact hs2.out _ _) (first | (go_at_call_of 127 (Value.pointer (some ⟨b1, 0, none⟩)); refine (H1.out _ hb1.drew).mono ?_; rintro e w1 ⟨rfl, rfl⟩) | (go_at_call_of 127 (Value.pointer (some ⟨b2, 0, none⟩)); refine (H2.out _ hb1.drew).mono ?_; rintro e w1 ⟨rfl, rfl⟩) | (go_at_call_of 73 (Value.string E); refine (HX.out _).mono ?_; rintro e w1 ⟨rfl, rfl⟩) | (go_at_call_of 73 (Value.string F); refine (HY.out _).mono ?_; rintro e w1 ⟨rfl, rfl⟩))
  have hU : Upd (fun k => k = ca ∨ k = cb) w ((wb.setCell ⟨ca, 0, none⟩ (.string X)).setCell ⟨cb, 0, none⟩ (.string Y)).drew := (((Upd.of_below hb1).setCell ca 0 _ (.inl rfl)).setCell cb 0 _ (.inr rfl)).drew
  have hF : AB ca cb X Y ((wb.setCell ⟨ca, 0, none⟩ (.string X)).setCell ⟨cb, 0, none⟩ (.string Y)).drew := by
    refine ⟨?_, ?_, hcc⟩
    · show ((wb.setCell ⟨ca, 0, none⟩ (.string X)).setCell ⟨cb, 0, none⟩ (.string Y)).heap[ca]? = _
      rw [Below.heap_setCell _ _ _ _ (by exact hcc)]
      exact heap_setCell_same wb ca 0 _ 9 _ hA1.ha
    · show ((wb.setCell ⟨ca, 0, none⟩ (.string X)).setCell ⟨cb, 0, none⟩ (.string Y)).heap[cb]? = _
      refine heap_setCell_same _ cb 0 #[.string sb] 9 _ ?_
      rw [Below.heap_setCell _ _ _ _ (by exact hcc.symm)]
      exact hA1.hb
  clear hs1 hs2 k0 k1 ka kb fa fb nA1 hA1 hb1
  generalize ((wb.setCell ⟨ca, 0, none⟩ (.string X)).setCell ⟨cb, 0, none⟩ (.string Y)).drew = w5 at hU hF ⊢
  have qa := Lib.cell_of_heap hF.ha 0
  go_wp2_with fail
  go_ret
  exact ⟨rfl, hF, hU⟩
end Go.Proofs.YtofglikppppjoacDoor
namespace Go.Proofs.YtofglikppppjoacDoor
open Go.RowKit Go.Proofs.Sha

theorem TB.ne9 {b k : Nat} {x : PairT} {l r : Option Addr} {e : ByteArray × ByteArray} {w : World} {cs : Array Value} (h : TB b x l r e w) (hk : w.heap[k]? = some (.cells cs 9)) : b ≠ k := fun q => by
  subst q
  unfold TB at h
  rw [hk] at h
  cases h
/-- A tree that does not lie in the two variables. -/
def TAc (ca cb : Nat) (f : Tr PairT → ByteArray × ByteArray) (t : Tr PairT) (p : Option Addr) (w : World) : Prop := ∃ bs, TAL 0 f t p bs w ∧ ∀ b ∈ bs, b ≠ ca ∧ b ≠ cb
abbrev Uc (ca cb : Nat) : World → World → Prop := Upd (fun k => k = ca ∨ k = cb)
theorem TAc.upd {ca cb : Nat} {f : Tr PairT → ByteArray × ByteArray} {t : Tr PairT} {p : Option Addr} {w w' : World} (h : TAc ca cb f t p w) (hu : Uc ca cb w w') : TAc ca cb f t p w' := by
  obtain ⟨bs, h1, h2⟩ := h
  exact ⟨bs, h1.upd hu (fun b hb q => by have := h2 b hb; omega), h2⟩
theorem TAc.ta {ca cb : Nat} {f : Tr PairT → ByteArray × ByteArray} {t : Tr PairT} {p : Option Addr} {w : World} (h : TAc ca cb f t p w) : TA 0 f t p w := by
  obtain ⟨bs, h1, h2⟩ := h
  exact h1.ta
theorem TAc.of {ca cb : Nat} {sa sb : ByteArray} {f : Tr PairT → ByteArray × ByteArray} {t : Tr PairT} {p : Option Addr} {w : World} (h : TA 0 f t p w) (hab : AB ca cb sa sb w) : TAc ca cb f t p w := by
  obtain ⟨bs, h1⟩ := h.list
  refine ⟨bs, h1, fun b hb => ?_⟩
  obtain ⟨x, _, l, r, e, hT⟩ := h1.mem b hb
  exact ⟨hT.ne9 hab.ha, hT.ne9 hab.hb⟩
def resT : Option (ByteArray × ByteArray) → ByteArray × ByteArray
  | none => (⟨#[]⟩, ⟨#[]⟩)
  | some q => (txt q.1, txt q.2)
/-- What is asked of two trees that are walked together. -/
structure Pre (m : Nat) (s t : Tr PairT) : Prop where
  root : rootT m s = rootT m t
  oks : ∀ x ∈ s.inord, Okp x
  okt : ∀ x ∈ t.inord, Okp x
  ns : s.size ≤ 100000
  nt : t.size ≤ 100000
theorem Okp.small {ps : List PairT} (h : ∀ x ∈ ps, Okp x) (hn : ps.length ≤ 1048576) : SmallP ps := by
  refine ⟨hn, fun j => ?_⟩
  by_cases hj : j < ps.length
  · rw [getD_lt ps j hj]
    obtain ⟨h1, h2⟩ := h _ (List.getElem_mem hj)
    unfold okKey at h1
    unfold okVal at h2
    rw [decide_eq_true_eq] at h1 h2
    omega
  · rw [pget_out ps j (by omega)]; exact ⟨Nat.zero_le _, Nat.zero_le _⟩
theorem Pre.ss {m : Nat} {s t : Tr PairT} (h : Pre m s t) : SmallP s.inord := Okp.small h.oks (by rw [Tr.inord_len]; have := h.ns; omega)
theorem Pre.st {m : Nat} {s t : Tr PairT} (h : Pre m s t) : SmallP t.inord := Okp.small h.okt (by rw [Tr.inord_len]; have := h.nt; omega)
/-- What the walk of two trees does. -/
def WB (m ca cb : Nat) (s t : Tr PairT) (w : World) (e : Ending) (w' : World) : Prop := e = .returned (.bool (twinT m s t).isNone) ∧ AB ca cb (resT (twinT m s t)).1 (resT (twinT m s t)).2 w' ∧ Uc ca cb w w'
def wbArgs (ca cb : Nat) (p q : Option Addr) : Array Value := #[.agg #[.pointer p, .pointer q], .func (.func 52) #[] #[], .func (.func 72) #[] #[.pointer (some ⟨ca, 0, none⟩), .pointer (some ⟨cb, 0, none⟩)]]

theorem wb_same (m ca cb : Nat) (s t : Tr PairT) (p q : Option Addr) (w : World) (hs : TAc ca cb (hf m) s p w) (ht : TAc ca cb (hf m) t q w) (hp : Pre m s t) (hab : AB ca cb ⟨#[]⟩ ⟨#[]⟩ w) (he : s.inord = t.inord) : Calls Tryd.prog 71 (wbArgs ca cb p q) w (WB m ca cb s t w) := by
  have hbA : Below w.heap.size w (w.alloc (.cells #[.pointer p, .pointer q] 76)) := (Below.refl _ _).alloc (Nat.le_refl _) _
  have HD := differ_any (hf m) s t p q _ (hs.ta.below hbA (Nat.le_refl _)) (ht.ta.below hbA (Nat.le_refl _)) hp.ns hp.nt hp.ss hp.st
  rw [decide_eq_true he] at HD
  have hAB : Hid (AB ca cb ⟨#[]⟩ ⟨#[]⟩ w) := hab
  unfold WB
  rw [twinT_same m s t he]
  unfold wbArgs
  clear hs ht hp hab he
  go_enter Tryd.func71, Tryd.ntmps71
  go_wp2_with (go_at_call 52; refine HD.mono ?_; rintro e w1 ⟨rfl, hb1⟩)
  go_ret
  have hb2 : Below w.heap.size w w1 := hbA.trans (hb1.mono hbA.size)
  exact ⟨rfl, hAB.out.below hb2, Upd.of_below hb2⟩

set_option maxRecDepth 100000 in
set_option maxHeartbeats 1000000 in
theorem wb_enc (m ca cb : Nat) (_h1 : 1 ≤ m) (_h2 : m ≤ 32) (l r l2 r2 : Tr PairT) (x y : PairT) (p q : Option Addr) (w : World) (hs : TAc ca cb (hf m) (.node l x r) p w) (ht : TAc ca cb (hf m) (.node l2 y r2) q w) (hp : Pre m (.node l x r) (.node l2 y r2)) (hab : AB ca cb ⟨#[]⟩ ⟨#[]⟩ w) (he : (Tr.node l x r).inord ≠ (Tr.node l2 y r2).inord)
    (hne : encT m (.node l x r) ≠ encT m (.node l2 y r2)) : Calls Tryd.prog 71 (wbArgs ca cb p q) w (WB m ca cb (.node l x r) (.node l2 y r2) w) := by
  have hbA : Below w.heap.size w (w.alloc (.cells #[.pointer p, .pointer q] 76)) := (Below.refl _ _).alloc (Nat.le_refl _) _
  have HD := differ_any (hf m) _ _ p q _ (hs.ta.below hbA (Nat.le_refl _)) (ht.ta.below hbA (Nat.le_refl _)) hp.ns hp.nt hp.ss hp.st
  rw [decide_eq_false he] at HD
  have hsz : ∀ (u : Tr PairT) (z : PairT) (v : Tr PairT), (encT m (.node u z v)).size ≤ 1048576 := fun u z v => by
    have := (encS_size z.1 z.2 (rootT m u) (rootT m v) m).1
    show (encS z.1 z.2 (rootT m u) (rootT m v) m).size ≤ 1048576
    omega
  obtain ⟨b1, pl1, pr1, rfl, _, t1, _, _⟩ := hs.ta
  obtain ⟨b2, pl2, pr2, rfl, _, t2, _, _⟩ := ht.ta
  have HX : Hid (∀ w', Below w.heap.size w w' → Calls Tryd.prog 72 #[.agg #[.pointer (some ⟨b1, 0, none⟩), .pointer (some ⟨b2, 0, none⟩)], .int .i64 0, .pointer (some ⟨ca, 0, none⟩), .pointer (some ⟨cb, 0, none⟩)] w' fun e w'' => e = .returned (.bool false) ∧ AB ca cb (txt (encT m (.node l x r))) (txt (encT m (.node l2 y r2))) w'' ∧ Uc ca cb w' w'') := fun w' hb => tw_diff b1 b2 x y pl1 pr1 pl2 pr2 _ _ _ _ _ _ hne (hsz _ _ _) (hsz _ _ _) ca cb 0 w' (t1.below hb (Nat.le_refl _)) (t2.below hb (Nat.le_refl _)) (hab.below hb)
  have htw : twinT m (.node l x r) (.node l2 y r2) = some (encT m (.node l x r), encT m (.node l2 y r2)) := by rw [twinT, if_neg he, if_pos hne]
  unfold WB
  rw [htw]
  unfold wbArgs
  simp only [resT, Option.isNone_some]
  have nA := heap_alloc_new w (.cells #[.pointer (some ⟨b1, 0, none⟩), .pointer (some ⟨b2, 0, none⟩)] 76)
  obtain ⟨ga, hga⟩ : ∃ ga, w.heap.size = ga := ⟨_, rfl⟩
  rw [hga] at nA
  have hlt : ga < (w.alloc (.cells #[.pointer (some ⟨b1, 0, none⟩), .pointer (some ⟨b2, 0, none⟩)] 76)).heap.size := by simp; omega
  clear htw hs ht hp hab he hne hsz t1 t2
  generalize encT m (.node l x r) = E1 at HX ⊢
  generalize encT m (.node l2 y r2) = E2 at HX ⊢
  go_enter Tryd.func71, Tryd.ntmps71
  try rw [hga]
  go_wp2_with (first | (go_at_call 52; refine HD.mono ?_; rintro e w1 ⟨rfl, hb1⟩; have n1 := (hb1.block ga hlt).trans nA; have k0 := Lib.cell_of_heap n1 0; have k1 := Lib.cell_of_heap n1 1; have hb2 : Below w.heap.size w w1 := hbA.trans (hb1.mono hbA.size)) | (go_at_call 72; refine (HX.out _ hb2).mono ?_; rintro e w3 ⟨rfl, hA3, hu3⟩))
  go_ret
  exact ⟨rfl, hA3, (Upd.of_below hb2).trans hu3⟩
end Go.Proofs.YtofglikppppjoacDoor
