import Derived.Test.YtfmpjlpakldheaaGreatDoorZcba
import Derived.Test.YtfmpjlpakldheaaGreatDoorZcao
import Derived.Test.YtfmpjlpakldheaaGreatDoorZcan
import Derived.Deep.AppendLies
import Derived.Deep.RegionLaw
namespace Go.Proofs.YtfmpjlpakldheaaGreatDoor
open Go.RowKit Go.Proofs.Sha

theorem IsEnc.inj {s : ByteArray} {n : Int} {k v l r k2 v2 l2 r2 : ByteArray} (h : IsEnc s n k v l r) (h2 : IsEnc s n k2 v2 l2 r2) : k = k2 ∧ v = v2 ∧ l = l2 ∧ r = r2 := by
  obtain ⟨_, e1, p1⟩ := h.parts
  obtain ⟨_, e2, p2⟩ := h2.parts
  obtain ⟨_, e3, p3⟩ := p1 _ rfl
  obtain ⟨_, e4, p4⟩ := p2 _ rfl
  obtain ⟨e5, e6⟩ := p3 _ rfl
  obtain ⟨e7, e8⟩ := p4 _ rfl
  obtain ⟨s1, s2⟩ := h.sides e5 e6
  obtain ⟨s3, s4⟩ := h2.sides e7 e8
  refine ⟨e1.trans e2.symm, e3.trans e4.symm, ?_⟩
  by_cases hf : (s.data.toList.getD (0 + 2 + szAt s 0 + 2 + szAt s (0 + 2 + szAt s 0)) 0).toNat % 2 = 1
  · exact ⟨(s1 hf).2.1.trans (s3 hf).2.1.symm, (s1 hf).2.2.trans (s3 hf).2.2.symm⟩
  · exact ⟨(s2 hf).1.trans (s4 hf).1.symm, (s2 hf).2.trans (s4 hf).2.symm⟩
theorem okNode (k v l r : ByteArray) (m : Nat) (h1 : 1 ≤ m) (h2 : m ≤ 32) (hk : okKey k = true) (hv : okVal v = true) (hl : l.size = 0 ∨ l.size = m) (hr : r.size = 0 ∨ r.size = m) : nodeOk k.size v.size l.size r.size (m : Int) = true := by
  unfold okKey at hk
  unfold okVal at hv
  rw [decide_eq_true_eq] at hk hv
  unfold nodeOk hashOk
  rw [Bool.and_eq_true, Bool.and_eq_true, decide_eq_true_eq]
  refine ⟨by omega, ?_, ?_⟩
  · rw [Bool.or_eq_true, decide_eq_true_eq, decide_eq_true_eq]; omega
  · rw [Bool.or_eq_true, decide_eq_true_eq, decide_eq_true_eq]; omega
/-- Encodings of tops tell their pairs and the roots below. -/
theorem encT_inj (m : Nat) (h1 : 1 ≤ m) (h2 : m ≤ 32) {l r l2 r2 : Tr PairT} {x y : PairT} (hx : Okp x) (hy : Okp y) (h : encT m (.node l x r) = encT m (.node l2 y r2)) : x = y ∧ rootT m l = rootT m l2 ∧ rootT m r = rootT m r2 := by
  have a1 := okNode x.1 x.2 _ _ m h1 h2 hx.1 hx.2 (rootT_size m h2 l) (rootT_size m h2 r)
  have a2 := okNode y.1 y.2 _ _ m h1 h2 hy.1 hy.2 (rootT_size m h2 l2) (rootT_size m h2 r2)
  have i1 : IsEnc (encT m (.node l x r)) m x.1 x.2 (rootT m l) (rootT m r) := ⟨a1, by show encS _ _ _ _ _ = _; unfold encS; rw [if_pos a1]⟩
  have i2 : IsEnc (encT m (.node l2 y r2)) m y.1 y.2 (rootT m l2) (rootT m r2) := ⟨a2, by show encS _ _ _ _ _ = _; unfold encS; rw [if_pos a2]⟩
  rw [← h] at i2
  obtain ⟨e1, e2, e3, e4⟩ := i1.inj i2
  exact ⟨Prod.ext e1 e2, e3, e4⟩
/-- The first two encodings that differ, as the model finds them. -/
def clashT (m : Nat) : Tr PairT → Tr PairT → Option (ByteArray × ByteArray)
  | .node l x r, .node l2 y r2 => if encT m (.node l x r) ≠ encT m (.node l2 y r2) then some (encT m (.node l x r), encT m (.node l2 y r2)) else if l.inord ≠ l2.inord then clashT m l l2 else clashT m r r2
  | _, _ => none
/-- As the walk finds them. -/
def twinT (m : Nat) : Tr PairT → Tr PairT → Option (ByteArray × ByteArray)
  | .node l x r, .node l2 y r2 => if (Tr.node l x r).inord = (Tr.node l2 y r2).inord then none else if encT m (.node l x r) ≠ encT m (.node l2 y r2) then some (encT m (.node l x r), encT m (.node l2 y r2)) else match twinT m l l2 with
    | some q => some q
    | none => twinT m r r2
  | _, _ => none
theorem rootT_nil (m : Nat) (h1 : 1 ≤ m) (h2 : m ≤ 32) (t : Tr PairT) (h : rootT m t = ⟨#[]⟩) : t = .nil := by
  cases t with
  | nil => rfl
  | node l x r =>
    have := digB_size (encS x.1 x.2 (rootT m l) (rootT m r) m) m h2
    have e : rootT m (.node l x r) = digB (encS x.1 x.2 (rootT m l) (rootT m r) m) m := rfl
    rw [← e, h] at this
    have h0 : (⟨#[]⟩ : ByteArray).size = 0 := rfl
    omega
theorem twinT_same (m : Nat) (s t : Tr PairT) (h : s.inord = t.inord) : twinT m s t = none := by
  cases s <;> cases t <;> simp only [twinT]
  rw [if_pos h]
theorem twin_clash (m : Nat) (h1 : 1 ≤ m) (h2 : m ≤ 32) : ∀ s t : Tr PairT, (∀ x ∈ s.inord, Okp x) → (∀ x ∈ t.inord, Okp x) → s.inord ≠ t.inord → rootT m s = rootT m t → ∃ q, twinT m s t = some q ∧ clashT m s t = some q ∧ 0 < q.1.size ∧ q.1 ≠ q.2 := by
  intro s
  induction s with
  | nil =>
    intro t _ _ hne hr
    have : t = .nil := rootT_nil m h1 h2 t hr.symm
    exact absurd (by rw [this]) hne
  | node l x r ihl ihr =>
    intro t hs ht hne hr
    cases t with
    | nil =>
      have : (Tr.node l x r) = .nil := rootT_nil m h1 h2 _ hr
      cases this
    | node l2 y r2 =>
      have hx := hs x (by simp [Tr.inord])
      have hy := ht y (by simp [Tr.inord])
      rw [twinT, clashT, if_neg hne]
      by_cases he : encT m (.node l x r) = encT m (.node l2 y r2)
      · rw [if_neg (by simp [he]), if_neg (by simp [he])]
        obtain ⟨rfl, e1, e2⟩ := encT_inj m h1 h2 hx hy he
        by_cases hl : l.inord = l2.inord
        · rw [if_neg (by simp [hl]), twinT_same m l l2 hl]
          have hrn : r.inord ≠ r2.inord := fun q => hne (by simp only [Tr.inord, hl, q])
          exact ihr r2 (fun z hz => hs z (by simp [Tr.inord, hz])) (fun z hz => ht z (by simp [Tr.inord, hz])) hrn e2
        · rw [if_pos hl]
          obtain ⟨q, q1, q2, q3⟩ := ihl l2 (fun z hz => hs z (by simp [Tr.inord, hz])) (fun z hz => ht z (by simp [Tr.inord, hz])) hl e1
          exact ⟨q, by rw [q1], q2, q3⟩
      · rw [if_pos he, if_pos he]
        refine ⟨_, rfl, rfl, ?_, he⟩
        have a1 := okNode x.1 x.2 _ _ m h1 h2 hx.1 hx.2 (rootT_size m h2 l) (rootT_size m h2 r)
        show 0 < (encS _ _ _ _ _).size
        unfold encS
        rw [if_pos a1]
        show 0 < (encL _ _ _ _).toArray.size
        rw [List.size_toArray]
        simp [encL]; omega
end Go.Proofs.YtfmpjlpakldheaaGreatDoor
namespace Go.Proofs.YtfmpjlpakldheaaGreatDoor
open Go.RowKit Go.Proofs.Sha

/-- A list of pairs of one's own, in a variable that is captured. -/
structure PS (c base : Nat) (ps : List PairT) (a : Option Addr) (cap : Nat) (w : World) : Prop where
  blk : w.heap[c]? = some (.cells #[.slice a ps.length cap] 23)
  own : w.ownsRow base 34 2 (.slice a ps.length cap) ps.length (flatP ps)
  hc : c < base
  hb : base ≤ w.heap.size
theorem PS.below {c base : Nat} {ps : List PairT} {a : Option Addr} {cap : Nat} {w w' : World} (h : PS c base ps a cap w) (hb : Below w.heap.size w w') : PS c base ps a cap w' :=
  ⟨(hb.block c (Nat.lt_of_lt_of_le h.hc h.hb)).trans h.blk, own2_kept h.own (fun g _ hg => hb.block g hg), h.hc, Nat.le_trans h.hb hb.size⟩
/-- All below 'base' but 'c' is as it was. -/
abbrev Ub (base c : Nat) : World → World → Prop := Upd (fun k => k = c ∨ base ≤ k)
theorem Upd.of_grown {M : Nat → Prop} {w w' : World} {row : Option Nat} (h : w.grownBy w' row) (hM : ∀ g, row = some g → M g) : Upd M w w' :=
  ⟨h.os, h.tape, h.output, h.size, fun k hk hn => h.block k hk (fun e => hn (hM k e.symm))⟩
theorem isThere_any (t : Tr PairT) (f : Tr PairT → ByteArray × ByteArray) (p : Option Addr) (w : World) {n0 : Nat} (h : TA n0 f t p w) : Calls Tryz.prog 138 #[.pointer p] w fun e w' => e = .returned (.bool (someT t)) ∧ w' = w := by
  have hp := h.ptr
  cases t with
  | nil =>
    obtain rfl : p = none := h
    have q : (binOp .neq 79 (.pointer none) (.pointer none)).run Tryz.prog w = .ok (.bool false) w := by
      have := ptr_nil w
      simp only [binOp] at this ⊢
      cases hq : (Op.equal 79 (.pointer none) (.pointer none)).run Tryz.prog w <;> simp_all
    have hs : someT .nil = false := rfl
    rw [hs]
    clear hp hs
    go_enter Tryz.func138, Tryz.ntmps138
    go_wp2_with fail
    go_ret
    exact ⟨rfl, rfl⟩
  | node l x r =>
    obtain ⟨b, pl, pr, rfl, _, hb, _, _⟩ := h
    have q : (binOp .neq 79 (.pointer (some ⟨b, 0, none⟩)) (.pointer none)).run Tryz.prog w = .ok (.bool true) w := by
      have := ptr_some _ w hp
      simp only [binOp] at this ⊢
      cases hq : (Op.equal 79 (.pointer (some ⟨b, 0, none⟩)) (.pointer none)).run Tryz.prog w <;> simp_all
    have hs : someT (.node l x r) = true := rfl
    rw [hs]
    clear hp hb hs
    go_enter Tryz.func138, Tryz.ntmps138
    go_wp2_with fail
    go_ret
    exact ⟨rfl, rfl⟩
theorem cpo_no (c : Nat) (p : Option Addr) (i : Int) (hi : i = 0 ∨ i = 2) (w : World) : Calls Tryz.prog 139 #[.pointer p, .int .i64 i, .pointer (some ⟨c, 0, none⟩)] w fun e w' => e = .returned (.bool true) ∧ w' = w := by
  have hz : (i == 1) = false := by rcases hi with rfl | rfl <;> rfl
  go_enter Tryz.func139, Tryz.ntmps139
  go_wp2_with fail
  go_ret
  exact ⟨rfl, rfl⟩

set_option maxRecDepth 100000 in
set_option maxHeartbeats 1000000 in
theorem cpo_yes (c base b : Nat) (ps : List PairT) (a : Option Addr) (cap : Nat) (x : PairT) (l r : Option Addr) (e0 : ByteArray × ByteArray) (w : World) (h : PS c base ps a cap w) (hT : TB b x l r e0 w) (_hbc : b ≠ c) (hbb : b < base) (hlen : ps.length ≤ 100000) :
    Calls Tryz.prog 139 #[.pointer (some ⟨b, 0, none⟩), .int .i64 1, .pointer (some ⟨c, 0, none⟩)] w fun e w' => e = .returned (.bool true) ∧ (∃ a' cap', PS c base (ps ++ [x]) a' cap' w') ∧ Ub base c w w' := by
  obtain ⟨i0, hi0, hz0, hz1, hz2⟩ := info_parts2 info37
  have hblk := h.blk
  have own := h.own
  have hc := h.hc
  have hb := h.hb
  have c0 := hT.c0
  have c1 := hT.c1
  have cc := Lib.cell_of_heap hblk 0
  obtain ⟨xk, xv⟩ := x
  obtain ⟨n, hn⟩ : ∃ n, ps.length = n := ⟨_, rfl⟩
  rw [hn] at hblk own cc hlen
  have hfl : Hid (flatP (ps ++ [(xk, xv)]) = flatP ps ++ [.string xk, .string xv]) := flatP_app _ _
  have hln : Hid ((ps ++ [(xk, xv)]).length = n + 1) := by show _ = _; rw [List.length_append, hn]; rfl
  have hbB : Below w.heap.size w (w.drew.alloc (.cells #[.string xk, .string xv] 34)) := (Below.refl _ _).drew.alloc (Nat.le_refl _) _
  have hca : ∀ o, (w.alloc o).cell? ⟨c, 0, none⟩ = some (.slice a n cap) := fun o => (World.cell?_alloc_lt _ _ _ (by show c < _; omega)).trans cc
  have hcb : ∀ o, (w.alloc o).cell? ⟨b, 0, none⟩ = some (.string xk) ∧ (w.alloc o).cell? ⟨b, 1, none⟩ = some (.string xv) := fun o => ⟨(World.cell?_alloc_lt _ _ _ (by show b < _; omega)).trans c0, (World.cell?_alloc_lt _ _ _ (by show b < _; omega)).trans c1⟩
  clear hT h
  go_enter Tryz.func139, Tryz.ntmps139
  go_upto_region 2 with fail
  go_region_law ((refine step_append_lies _ (by rfl) (.tmp 8) (.tmp 13) 23 (by rfl) base 34 i0 (.agg #[.string ⟨#[]⟩, .string ⟨#[]⟩]) 2 32 Tryz.underlying23 hi0 hz0 hz1 hz2 (by rfl) (by decide) (.slice a n cap) n (flatP ps) (by rfl) (own.alloc _) ⟨w.heap.size, 0, none⟩ 1 1 [.string xk, .string xv] (by rfl) (by rfl) (World.news_of_block (heap_alloc_new w.drew _)) (by simp [Value.oneCell']) (by decide) (by unfold maxLen; omega) (by omega) (by simp; omega) (w.heap.size + 1) (by simp) ?_; intro g4 c4 w4 hown4 hgrow4 hat4 hlt4; have hlb4 := (hgrow4.block c (by simp; omega) (fun e => by have := (own2_cells own e.symm).1; omega)).trans ((hbB.block c (by omega)).trans hblk); have k1 := Lib.cell_of_heap hlb4 0; have f1 : w4.frozen? ⟨c, 0, none⟩ = false := by rw [World.frozen?, hlb4]; rfl))
  all_goals
    have hs4 := hgrow4.size
    have hbd : Below w.heap.size w ((w.alloc (.cells #[.string xk, .string xv] 34)).drew) := ((Below.refl _ _).alloc (Nat.le_refl _) _).drew
    have hu : Ub base c w (w4.setCell ⟨c, 0, none⟩ (.slice (some ⟨g4, 0, none⟩) (n + 1) c4)) := ((Upd.of_below hbd).trans (Upd.of_grown hgrow4 (fun g e => .inr (own2_cells own e).1))).setCell c 0 _ (.inl rfl)
    go_wp2_with fail
    go_ret
    refine ⟨rfl, ⟨some ⟨g4, 0, none⟩, c4, by rw [hln.out]; exact heap_setCell_same w4 c 0 _ 23 _ hlb4, by rw [hln.out, hfl.out]; exact own2_kept hown4 (fun g hv _ => Below.heap_setCell _ _ _ _ (by have e : g4 = g := Option.some.inj hv; have hg4 : base ≤ g4 := (own2_cells hown4 rfl).1; show g ≠ c; omega)), hc, Nat.le_trans hb hu.size⟩, hu⟩
/-- A tree whose blocks lie below 'base' and are not 'c'. -/
def TAb (base c : Nat) (f : Tr PairT → ByteArray × ByteArray) (t : Tr PairT) (p : Option Addr) (w : World) : Prop := ∃ bs, TAL 0 f t p bs w ∧ ∀ b ∈ bs, b < base ∧ b ≠ c
theorem TAb.upd {base c : Nat} {f : Tr PairT → ByteArray × ByteArray} {t : Tr PairT} {p : Option Addr} {w w' : World} (h : TAb base c f t p w) (hu : Ub base c w w') : TAb base c f t p w' := by
  obtain ⟨bs, h1, h2⟩ := h
  exact ⟨bs, h1.upd hu (fun b hb q => by have := h2 b hb; omega), h2⟩
theorem TAb.ta {base c : Nat} {f : Tr PairT → ByteArray × ByteArray} {t : Tr PairT} {p : Option Addr} {w : World} (h : TAb base c f t p w) : TA 0 f t p w := by
  obtain ⟨bs, h1, h2⟩ := h
  exact h1.ta

set_option maxRecDepth 100000 in
set_option maxHeartbeats 2000000 in
theorem walk_pairs (f : Tr PairT → ByteArray × ByteArray) (c base : Nat) : ∀ (t : Tr PairT) (p : Option Addr) (ps : List PairT) (a : Option Addr) (cap : Nat) (w : World), TAb base c f t p w → PS c base ps a cap w → ps.length + t.size ≤ 100000 →
    Calls Tryz.prog 134 #[.pointer p, .func (.func 138) #[] #[], .func (.func 139) #[] #[.pointer (some ⟨c, 0, none⟩)]] w fun e w' => e = .returned (.bool true) ∧ (∃ a' cap', PS c base (ps ++ t.inord) a' cap' w') ∧ Ub base c w w' := by
  intro t
  induction t with
  | nil =>
    intro p ps a cap w ht hp hn
    have HU := isThere_any .nil f p w ht.ta
    have hs : someT .nil = false := rfl
    rw [hs] at HU
    have HP : Hid (∃ a' cap', PS c base (ps ++ Tr.nil.inord) a' cap' w) := ⟨a, cap, by rw [Tr.inord, List.append_nil]; exact hp⟩
    clear hs ht hp hn
    go_enter Tryz.func134, Tryz.ntmps134
    go_wp2_with (go_at_call 138; refine HU.mono ?_; rintro e w1 ⟨rfl, rfl⟩)
    go_ret
    exact ⟨rfl, HP.out, Upd.refl _ _⟩
  | node l x r ihl ihr =>
    intro p ps a cap w ht hp hn
    have HU := isThere_any (.node l x r) f p w ht.ta
    have hs : someT (.node l x r) = true := rfl
    rw [hs] at HU
    clear hs
    obtain ⟨bs, ⟨b, pl, pr, bl, br, rfl, rfl, _, hb, hl, hr⟩, hbs⟩ := ht
    have hbb := hbs b (by simp)
    have tl : TAb base c f l pl w := ⟨bl, hl, fun k hk => hbs k (by simp [hk])⟩
    have tr : TAb base c f r pr w := ⟨br, hr, fun k hk => hbs k (by simp [hk])⟩
    have hm : ∀ w' : World, (method 388 79 (.pointer (some ⟨b, 0, none⟩)) "loop.example/s03048/impl.subtrees").run Tryz.prog w' = .ok (204, .pointer (some ⟨b, 0, none⟩)) w' := fun _ => by kernel_rfl
    have H0 := fun w' => cpo_no c (some ⟨b, 0, none⟩) 0 (.inl rfl) w'
    have H2 := fun w' => cpo_no c (some ⟨b, 0, none⟩) 2 (.inr rfl) w'
    have HS := subs_any b x pl pr _ w hb
    simp only [Tr.size] at hn
    have hll := Tr.inord_len l
    have HL : Hid (∀ w0, Below w.heap.size w w0 → Calls Tryz.prog 134 #[.pointer pl, .func (.func 138) #[] #[], .func (.func 139) #[] #[.pointer (some ⟨c, 0, none⟩)]] w0 fun e w' => e = .returned (.bool true) ∧ (∃ a' cap', PS c base (ps ++ l.inord) a' cap' w') ∧ Ub base c w w') := fun w0 hb0 => by
      refine (ihl pl ps a cap w0 (tl.upd (Upd.of_below hb0)) (hp.below hb0) (by omega)).mono ?_
      rintro e w' ⟨he, hT, hU⟩
      exact ⟨he, hT, (Upd.of_below hb0).trans hU⟩
    have H1 : Hid (∀ w1, Ub base c w w1 → (∃ a' cap', PS c base (ps ++ l.inord) a' cap' w1) → Calls Tryz.prog 139 #[.pointer (some ⟨b, 0, none⟩), .int .i64 1, .pointer (some ⟨c, 0, none⟩)] w1 fun e w' => e = .returned (.bool true) ∧ (∃ a' cap', PS c base (ps ++ l.inord ++ [x]) a' cap' w') ∧ Ub base c w w') := fun w1 hu1 ⟨a1, c1, hp1⟩ => by
      refine (cpo_yes c base b _ a1 c1 x pl pr _ w1 hp1 (hb.upd hu1 (fun q => by omega)) hbb.2 hbb.1 (by rw [List.length_append]; omega)).mono ?_
      rintro e w' ⟨he, hp2, hu2⟩
      exact ⟨he, hp2, hu1.trans hu2⟩
    have HR : Hid (∀ w1, Ub base c w w1 → (∃ a' cap', PS c base (ps ++ l.inord ++ [x]) a' cap' w1) → Calls Tryz.prog 134 #[.pointer pr, .func (.func 138) #[] #[], .func (.func 139) #[] #[.pointer (some ⟨c, 0, none⟩)]] w1 fun e w' => e = .returned (.bool true) ∧ (∃ a' cap', PS c base (ps ++ (Tr.node l x r).inord) a' cap' w') ∧ Ub base c w w') := fun w1 hu1 ⟨a1, c1, hp1⟩ => by
      refine (ihr pr _ a1 c1 w1 (tr.upd hu1) hp1 (by simp only [List.length_append, List.length_cons, List.length_nil]; omega)).mono ?_
      rintro e w' ⟨he, hT, hU⟩
      refine ⟨he, ?_, hu1.trans hU⟩
      have e2 : ps ++ l.inord ++ [x] ++ r.inord = ps ++ (Tr.node l x r).inord := by simp [Tr.inord]
      rw [← e2]; exact hT
    clear hb hl hr hbs hbb tl tr ihl ihr hp hn hll
    go_enter Tryz.func134, Tryz.ntmps134
    go_wp2_with (first | (go_at_call 138; refine HU.mono ?_; rintro e w1 ⟨rfl, rfl⟩) | (go_at_call_of 139 (Value.int .i64 0); refine (H0 _).mono ?_; rintro e w1 ⟨rfl, rfl⟩) | (go_at_call_of 139 (Value.int .i64 1); refine (H1.out _ hu1 hp1).mono ?_; rintro e w2 ⟨rfl, hp2, hu2⟩) | (go_at_call 204; refine HS.mono ?_; rintro e w0 ⟨rfl, hb0⟩) | (go_at_call_of 134 (Value.pointer pl); refine (HL.out _ hb0).mono ?_; rintro e w1 ⟨rfl, hp1, hu1⟩) | (go_at_call_of 134 (Value.pointer pr); refine (HR.out _ hu2 hp2).mono ?_; rintro e w3 ⟨rfl, hp3, hu3⟩) | (go_at_call_of 139 (Value.int .i64 2); refine (H2 _).mono ?_; rintro e w4 ⟨rfl, rfl⟩))
    go_ret
    exact ⟨rfl, hp3, hu3⟩
end Go.Proofs.YtfmpjlpakldheaaGreatDoor
