import Derived.Test.YtmfhfehemoeeeaaGreatDoorZsao
import Derived.Test.YtmfhfehemoeeeaaGreatDoorZsbt
import Derived.Test.YtmfhfehemoeeeaaGreatDoorZsau
import Derived.Test.YtmfhfehemoeeeaaGreatDoorZsbj
import Derived.Test.YtmfhfehemoeeeaaGreatDoorZsbf
set_option maxRecDepth 100000
set_option maxHeartbeats 1000000
namespace Go.Proofs.YtmfhfehemoeeeaaGreatDoor
open Go.RowKit Go.Proofs.Sha

theorem nodeRec_impl (enc : ByteArray) (w : World) (hs : enc.size ≤ 1048576) :
    Calls Tryz.prog 10 #[.string enc] w fun e w' => ∃ t, e = .returned (.string t) ∧ Hid (t = nodeRec enc) ∧ Below w.heap.size w w' := by
  by_cases h : 1 ≤ enc.size ∧ enc.size ≤ 4000
  · have z1 : decide ((1 : Int) ≤ (enc.size : Int)) = true := by simp; omega
    have z2 : decide ((enc.size : Int) ≤ 4000) = true := by simp; omega
    have HC : Hid (∀ w', Calls Tryz.prog 30 #[.iface 68 (.agg #[]), .agg #[.int .i64 0, .string enc, .int .i64 0, .string ⟨#[]⟩, .int .i64 0]] w' fun e w'' => ∃ t : ByteArray, e = .returned (.string t) ∧ Hid (t.data.toList = marked (four enc.size ++ enc.data.toList) [83] [77]) ∧ Below w'.heap.size w' w'') := by
      intro w'
      refine written_R _ _ _ _ _ _ _ w' ?_
      intro b' w'' h''
      refine wR33 _ _ _ _ _ b' [] _ w'' h'' ?_
      intro w3 h3
      exact nodeRec_put b' enc _ _ _ _ [] w3 h3 (by simp) h.2
    have HR : Hid (nodeRec enc = T (marked (four enc.size ++ enc.data.toList) [83] [77])) := by show nodeRec enc = _; rw [nodeRec, if_pos h]
    obtain ⟨m, hm⟩ : ∃ m, marked (four enc.size ++ enc.data.toList) [83] [77] = m := ⟨_, rfl⟩
    rw [hm] at HC HR
    clear hm
    go_enter Tryz.func10, Tryz.ntmps10
    go_wp2_with (first | (go_at_call 30; refine (HC.out _).mono ?_; rintro e w2 ⟨t, rfl, HT, hb2⟩) | go_in)
    go_ret
    exact ⟨t, rfl, (of_list HT.out).trans HR.out.symm, hb2⟩
  · have HR : Hid (nodeRec enc = ⟨#[]⟩) := by show nodeRec enc = _; rw [nodeRec, if_neg h]
    by_cases h1 : 1 ≤ enc.size
    · have z1 : decide ((1 : Int) ≤ (enc.size : Int)) = true := by simp; omega
      have z2 : decide ((enc.size : Int) ≤ 4000) = false := by simp; omega
      go_enter Tryz.func10, Tryz.ntmps10
      go_wp2
      go_ret
      exact ⟨_, rfl, HR.out.symm, Below.refl _ _⟩
    · have z1 : decide ((1 : Int) ≤ (enc.size : Int)) = false := by simp; omega
      go_enter Tryz.func10, Tryz.ntmps10
      go_wp2
      go_ret
      exact ⟨_, rfl, HR.out.symm, Below.refl _ _⟩

theorem commitRec_impl (v : Int) (root : ByteArray) (w : World) (hs : root.size ≤ 1048576) :
    Calls Tryz.prog 11 #[.int .i64 v, .string root] w fun e w' => ∃ t, e = .returned (.string t) ∧ Hid (t = commitRec v root) ∧ Below w.heap.size w w' := by
  by_cases h : 1 ≤ v ∧ v ≤ 1000000 ∧ root.size ≤ 32
  · obtain ⟨n, rfl⟩ := Int.eq_ofNat_of_zero_le (show 0 ≤ v by omega)
    have z1 : decide ((1 : Int) ≤ (n : Int)) = true := by simp; omega
    have z2 : decide ((n : Int) ≤ 1000000) = true := by simp; omega
    have z3 : decide ((root.size : Int) ≤ 32) = true := by simp; omega
    obtain ⟨m, hm⟩ : ∃ m, marked (four n ++ [UInt8.ofNat root.size] ++ root.data.toList) [67] [] = m := ⟨_, rfl⟩
    have HC : Hid (∀ w', Calls Tryz.prog 30 #[.iface 70 (.agg #[]), .agg #[.int .i64 0, .string ⟨#[]⟩, .int .i64 (n : Int), .string root, .int .i64 0]] w' fun e w'' => ∃ t : ByteArray, e = .returned (.string t) ∧ Hid (t.data.toList = m) ∧ Below w'.heap.size w' w'') := by
      intro w'
      refine written_R _ _ _ _ _ _ _ w' ?_
      intro b' w'' h''
      refine wR34 _ _ _ _ _ b' [] _ w'' h'' ?_
      intro w3 h3
      have := commitRec_put b' n root (.int .i64 0) (.string ⟨#[]⟩) (.int .i64 0) [] w3 h3 (by simp) (by omega) h.2.2
      have hlen : (four n ++ [UInt8.ofNat root.size] ++ root.data.toList).length = 5 + root.size := by rw [List.length_append, List.length_append]; rfl
      rw [List.nil_append, four_numTo, ← marked_one _ _ [] (by omega) (by omega), hm] at this
      exact this
    have HR : Hid (commitRec (n : Int) root = T m) := by show commitRec _ root = _; rw [commitRec, if_pos h, Int.toNat_natCast, hm]
    clear hm
    go_enter Tryz.func11, Tryz.ntmps11
    go_wp2_with (first | (go_at_call 30; refine (HC.out _).mono ?_; rintro e w2 ⟨t, rfl, HT, hb2⟩) | go_in)
    go_ret
    exact ⟨t, rfl, (of_list HT.out).trans HR.out.symm, hb2⟩
  · have HR : Hid (commitRec v root = ⟨#[]⟩) := by show commitRec v root = _; rw [commitRec, if_neg h]
    by_cases h1 : 1 ≤ v
    · have z1 : decide ((1 : Int) ≤ v) = true := by simp; omega
      by_cases h2 : v ≤ 1000000
      · have z2 : decide (v ≤ 1000000) = true := by simp; omega
        have z3 : decide ((root.size : Int) ≤ 32) = false := by simp; omega
        go_enter Tryz.func11, Tryz.ntmps11
        go_wp2
        go_ret
        exact ⟨_, rfl, HR.out.symm, Below.refl _ _⟩
      · have z2 : decide (v ≤ 1000000) = false := by simp; omega
        go_enter Tryz.func11, Tryz.ntmps11
        go_wp2
        go_ret
        exact ⟨_, rfl, HR.out.symm, Below.refl _ _⟩
    · have z1 : decide ((1 : Int) ≤ v) = false := by simp; omega
      go_enter Tryz.func11, Tryz.ntmps11
      go_wp2
      go_ret
      exact ⟨_, rfl, HR.out.symm, Below.refl _ _⟩

theorem encs_small {wd : Nat} (h1 : 1 ≤ wd) (h2 : wd ≤ 32) : ∀ (t : Tr PairT), (∀ p ∈ t.inord, okKey p.1 = true ∧ okVal p.2 = true) → ∀ e ∈ encsT wd t, 1 ≤ e.size ∧ e.size ≤ 2400
  | .nil, _, e, he => absurd he (by simp [encsT])
  | .node l x r, h, e, he => by
    rw [encsT, List.mem_append, List.mem_append] at he
    have hx := h x (by simp [Tr.inord])
    rcases he with (he | he) | he
    · exact encs_small h1 h2 l (fun p hp => h p (by simp [Tr.inord, hp])) e he
    · exact encs_small h1 h2 r (fun p hp => h p (by simp [Tr.inord, hp])) e he
    · obtain rfl : e = encT wd (.node l x r) := by simpa using he
      have hok := nodeOk_of (l := l) (r := r) h1 h2 hx.1 hx.2
      show 1 ≤ (encS x.1 x.2 (rootT wd l) (rootT wd r) wd).size ∧ (encS x.1 x.2 (rootT wd l) (rootT wd r) wd).size ≤ 2400
      have ho := nodeOk_out hok
      rw [encS, if_pos hok, T_size]
      unfold encL
      simp only [List.length_append, sized_length, List.length_cons, List.length_nil]
      have e1 : x.1.data.toList.length = x.1.size := rfl
      have e2 : x.2.data.toList.length = x.2.size := rfl
      have e3 : (rootT wd l).data.toList.length = (rootT wd l).size := rfl
      have e4 : (rootT wd r).data.toList.length = (rootT wd r).size := rfl
      omega
theorem map_encs {wd : Nat} (h1 : 1 ≤ wd) (h2 : wd ≤ 32) {ps : List PairT} (hm : isMapT ps = true) : ∀ e ∈ encsT wd (cutTree ps), 1 ≤ e.size ∧ e.size ≤ 2400 :=
  encs_small h1 h2 _ (fun p hp => by rw [cutTree_inord] at hp; exact isMapT_ok ps hm p hp)
/-- What a saving adds, and that its root's node is there. -/
theorem save_step {wd : Nat} (h1 : 1 ≤ wd) (h2 : wd ≤ 32) {ps : List PairT} (hm : isMapT ps = true) (hl : ps.length ≤ 46) {X ad : List ByteArray} (hs : svAll wd X (encsT wd (cutTree ps)) = .go ad) :
    (∀ e ∈ ad, 1 ≤ e.size ∧ e.size ≤ 2400) ∧ ad.length ≤ 46 ∧ (rootT wd (cutTree ps)).size ≤ 32 ∧ ((rootT wd (cutTree ps)).size = 0 ∨ anyHit wd (X ++ ad) (rootT wd (cutTree ps)) = true) := by
  obtain ⟨a1, a2⟩ := sv_sub wd X _ [] ad hs
  refine ⟨fun e he => ?_, ?_, ?_, ?_⟩
  · rcases a1 e he with h | h
    · cases h
    · exact map_encs h1 h2 hm e h
  · rw [encsT_len, cutTree_size] at a2
    simp only [List.length_nil, Nat.zero_add] at a2
    omega
  · rcases rootT_size wd h2 (cutTree ps) with h | h <;> omega
  · have hh := (sv_has wd X _ [] ad hs).2
    cases ht : cutTree ps with
    | nil => exact .inl rfl
    | node l x r =>
      rw [ht] at hh
      have hf := hh (encT wd (.node l x r)) (by simp [encsT])
      obtain ⟨_, hmem⟩ := fst2_is hf
      refine .inr ?_
      unfold anyHit
      rw [List.any_eq_true]
      exact ⟨_, hmem, decide_eq_true rfl⟩
theorem next_map {ps : List PairT} (hm : isMapT ps = true) {k v : ByteArray} (hk : okKey k = true) (hv : okVal v = true) (hl : ps.length ≤ 45) : isMapT (wth ps k v) = true := by
  refine isMapT_of (ku_wth (ku_of_map hm) k v) (fun p hp => ?_) (by have := wth_len ps k v; omega)
  rcases mem_wth2 hp with rfl | hp
  · exact ⟨hk, hv⟩
  · exact isMapT_ok ps hm p hp

/-- The block that a slice lies in. -/
def rb (a : Option Addr) : Option Nat := a.map (·.block)
theorem rb_own (a : Option Addr) (n c : Nat) : (Value.slice a n c).ownBlock = rb a := by cases a <;> rfl
def Jn (n : Nat) : Value := .int .i64 (n : Int)
theorem PArg.moved {a : Option Addr} {ps : List PairT} {W W' : World} (h : PArg a ps W) (hs : W.heap.size ≤ W'.heap.size) (hk : ∀ g, rb a = some g → g < W.heap.size → W'.heap[g]? = W.heap[g]?) : PArg a ps W' := by
  refine ⟨h.le, h.sz, fun h0 => ?_⟩
  obtain ⟨b, off, rfl, hlt, hc⟩ := h.at_ h0
  have hb := hk b rfl hlt
  refine ⟨b, off, rfl, Nat.lt_of_lt_of_le hlt hs, fun j hj => ?_⟩
  have := hc j hj
  exact ⟨(World.cell?_of_block hb).trans this.1, (World.cell?_of_block hb).trans this.2⟩
theorem SArg.moved {a : Option Addr} {ss : List ByteArray} {W W' : World} (h : SArg a ss W) (hs : W.heap.size ≤ W'.heap.size) (hk : ∀ g, rb a = some g → g < W.heap.size → W'.heap[g]? = W.heap[g]?) : SArg a ss W' := by
  refine ⟨h.le, h.sz, fun h0 => ?_⟩
  obtain ⟨b, off, rfl, hlt, hc⟩ := h.at_ h0
  have hb := hk b rfl hlt
  exact ⟨b, off, rfl, Nat.lt_of_lt_of_le hlt hs, fun j hj => (World.cell?_of_block hb).trans (hc j hj)⟩
/-- What lies in memory between two commits: the map, the pool, the roots and the ends. -/
structure LM (base gP W : Nat) (ps : List PairT) (a5 : Option Addr) (c5 : Nat) (X : List ByteArray) (aX : Option Addr) (cX : Nat) (RT : List ByteArray) (a9 : Option Addr) (c9 : Nat) (EN : List Nat) (a10 : Option Addr) (c10 : Nat) (wr : World) : Prop where
  p : PArg a5 ps wr
  pc : ps.length ≤ c5
  blk : wr.heap[gP]? = some (.cells #[.int .i64 (W : Int), .slice aX X.length cX] 29)
  x : SArg aX X wr
  r : wr.ownsRow base 9 1 (.slice a9 RT.length c9) RT.length (RT.map Value.string)
  e : wr.ownsRow base 3 1 (.slice a10 EN.length c10) EN.length (EN.map Jn)
  dp : ∀ g, rb a5 = some g → rb a9 ≠ some g ∧ rb a10 ≠ some g ∧ g < wr.heap.size
  dx : ∀ g, rb aX = some g → rb a9 ≠ some g ∧ rb a10 ≠ some g ∧ g < wr.heap.size
section
variable {base gP W : Nat} {ps : List PairT} {a5 : Option Addr} {c5 : Nat} {X : List ByteArray} {aX : Option Addr} {cX : Nat} {RT : List ByteArray} {a9 : Option Addr} {c9 : Nat} {EN : List Nat} {a10 : Option Addr} {c10 : Nat} {wr W' : World}
theorem LM.below (h : LM base gP W ps a5 c5 X aX cX RT a9 c9 EN a10 c10 wr) (hb : Below wr.heap.size wr W') : LM base gP W ps a5 c5 X aX cX RT a9 c9 EN a10 c10 W' :=
  ⟨h.p.below hb, h.pc, (hb.block gP (Array.getElem?_eq_some_iff.1 h.blk).1).trans h.blk, h.x.below hb, ownG_kept h.r (fun q _ hq => hb.block q hq), ownG_kept h.e (fun q _ hq => hb.block q hq),
   fun g hg => ⟨(h.dp g hg).1, (h.dp g hg).2.1, Nat.lt_of_lt_of_le (h.dp g hg).2.2 hb.size⟩, fun g hg => ⟨(h.dx g hg).1, (h.dx g hg).2.1, Nat.lt_of_lt_of_le (h.dx g hg).2.2 hb.size⟩⟩
theorem ne_type {w : World} {g b : Nat} {cs ds : Array Value} {t u : TypeId} {f f' : Nat × Nat} (h : w.heap[g]? = some (.cells cs t f)) (k : w.heap[b]? = some (.cells ds u f')) (ht : t ≠ u) : g ≠ b := by
  rintro rfl
  rw [h] at k
  simp only [Option.some.injEq, Obj.cells.injEq] at k
  exact ht k.2.1
/-- One root more. -/
theorem LM.root (h : LM base gP W ps a5 c5 X aX cX RT a9 c9 EN a10 c10 wr) {o : Obj} {root : ByteArray} {g c : Nat} (hown : W'.ownsRow base 9 1 (.slice (some ⟨g, 0, none⟩) (RT.length + 1) c) (RT.length + 1) (RT.map Value.string ++ [.string root])) (hgrow : (wr.alloc o).grownBy W' (Value.slice a9 RT.length c9).ownBlock) (hat : (Value.slice a9 RT.length c9).ownBlock = some g ∨ g = wr.heap.size + 1) :
    LM base gP W ps a5 c5 X aX cX (RT ++ [root]) (some ⟨g, 0, none⟩) c EN a10 c10 W' := by
  have hk : ∀ q, q < wr.heap.size → rb a9 ≠ some q → W'.heap[q]? = wr.heap[q]? := fun q hq hne => by
    refine (hgrow.block q (by simp; omega) (fun e => hne ?_)).trans (Below.heap_alloc wr o q hq)
    rw [rb_own] at e; exact e.symm
  have hsz : wr.heap.size ≤ W'.heap.size := Nat.le_trans (by simp) hgrow.size
  have hg : ∀ q, q < wr.heap.size → rb a9 ≠ some q → rb (some (⟨g, 0, none⟩ : Addr)) ≠ some q := fun q hq hne e => by
    have e2 : g = q := Option.some.inj e
    subst e2
    rcases hat with h1 | h1
    · rw [rb_own] at h1; exact hne h1
    · omega
  have hgP : rb a9 ≠ some gP := fun e => by
    obtain ⟨_, _, cur, h4⟩ := ownG_cells h.r (by rw [rb_own]; exact e)
    exact ne_type h4 h.blk (by decide) rfl
  refine ⟨h.p.moved hsz (fun q hq hl => hk q hl (h.dp q hq).1), h.pc, (hk gP (Array.getElem?_eq_some_iff.1 h.blk).1 hgP).trans h.blk, h.x.moved hsz (fun q hq hl => hk q hl (h.dx q hq).1), ?_, ?_, ?_, ?_⟩
  · rw [List.length_append, List.map_append]; exact hown
  · exact ownG_kept h.e (fun q hv hq => by
      obtain ⟨_, _, cur, h4⟩ := ownG_cells h.e hv
      refine hk q hq (fun e => ?_)
      obtain ⟨_, _, cur', h5⟩ := ownG_cells h.r (by rw [rb_own]; exact e)
      exact ne_type h4 h5 (by decide) rfl)
  · exact fun q hq => ⟨hg q (h.dp q hq).2.2 (h.dp q hq).1, (h.dp q hq).2.1, Nat.lt_of_lt_of_le (h.dp q hq).2.2 hsz⟩
  · exact fun q hq => ⟨hg q (h.dx q hq).2.2 (h.dx q hq).1, (h.dx q hq).2.1, Nat.lt_of_lt_of_le (h.dx q hq).2.2 hsz⟩
/-- One end more. -/
theorem LM.fin (h : LM base gP W ps a5 c5 X aX cX RT a9 c9 EN a10 c10 wr) {o : Obj} {x g c : Nat} (hown : W'.ownsRow base 3 1 (.slice (some ⟨g, 0, none⟩) (EN.length + 1) c) (EN.length + 1) (EN.map Jn ++ [Jn x])) (hgrow : (wr.alloc o).grownBy W' (Value.slice a10 EN.length c10).ownBlock) (hat : (Value.slice a10 EN.length c10).ownBlock = some g ∨ g = wr.heap.size + 1) :
    LM base gP W ps a5 c5 X aX cX RT a9 c9 (EN ++ [x]) (some ⟨g, 0, none⟩) c W' := by
  have hk : ∀ q, q < wr.heap.size → rb a10 ≠ some q → W'.heap[q]? = wr.heap[q]? := fun q hq hne => by
    refine (hgrow.block q (by simp; omega) (fun e => hne ?_)).trans (Below.heap_alloc wr o q hq)
    rw [rb_own] at e; exact e.symm
  have hsz : wr.heap.size ≤ W'.heap.size := Nat.le_trans (by simp) hgrow.size
  have hg : ∀ q, q < wr.heap.size → rb a10 ≠ some q → rb (some (⟨g, 0, none⟩ : Addr)) ≠ some q := fun q hq hne e => by
    have e2 : g = q := Option.some.inj e
    subst e2
    rcases hat with h1 | h1
    · rw [rb_own] at h1; exact hne h1
    · omega
  have hgP : rb a10 ≠ some gP := fun e => by
    obtain ⟨_, _, cur, h4⟩ := ownG_cells h.e (by rw [rb_own]; exact e)
    exact ne_type h4 h.blk (by decide) rfl
  refine ⟨h.p.moved hsz (fun q hq hl => hk q hl (h.dp q hq).2.1), h.pc, (hk gP (Array.getElem?_eq_some_iff.1 h.blk).1 hgP).trans h.blk, h.x.moved hsz (fun q hq hl => hk q hl (h.dx q hq).2.1), ?_, ?_, ?_, ?_⟩
  · exact ownG_kept h.r (fun q hv hq => by
      obtain ⟨_, _, cur, h4⟩ := ownG_cells h.r hv
      refine hk q hq (fun e => ?_)
      obtain ⟨_, _, cur', h5⟩ := ownG_cells h.e (by rw [rb_own]; exact e)
      exact ne_type h4 h5 (by decide) rfl)
  · rw [List.length_append, List.map_append]; exact hown
  · exact fun q hq => ⟨(h.dp q hq).1, hg q (h.dp q hq).2.2 (h.dp q hq).2.1, Nat.lt_of_lt_of_le (h.dp q hq).2.2 hsz⟩
  · exact fun q hq => ⟨(h.dx q hq).1, hg q (h.dx q hq).2.2 (h.dx q hq).2.1, Nat.lt_of_lt_of_le (h.dx q hq).2.2 hsz⟩
/-- Another map. -/
theorem LM.map (h : LM base gP W ps a5 c5 X aX cX RT a9 c9 EN a10 c10 wr) {qs : List PairT} {aq : Option Addr} {cq : Nat} (hq : PArg aq qs wr) (hc : qs.length ≤ cq) (hd : ∀ g, rb aq = some g → rb a9 ≠ some g ∧ rb a10 ≠ some g ∧ g < wr.heap.size) : LM base gP W qs aq cq X aX cX RT a9 c9 EN a10 c10 wr :=
  ⟨hq, hc, h.blk, h.x, h.r, h.e, hd, h.dx⟩
theorem LM.r_lt (h : LM base gP W ps a5 c5 X aX cX RT a9 c9 EN a10 c10 wr) : ∀ g, rb a9 = some g → g < wr.heap.size := fun g hg => (ownG_cells h.r (by rw [rb_own]; exact hg)).2.1
theorem LM.e_lt (h : LM base gP W ps a5 c5 X aX cX RT a9 c9 EN a10 c10 wr) : ∀ g, rb a10 = some g → g < wr.heap.size := fun g hg => (ownG_cells h.e (by rw [rb_own]; exact hg)).2.1
/-- The pool that was saved takes the old one's place. -/
theorem LM.pool (h : LM base gP W ps a5 c5 X aX cX RT a9 c9 EN a10 c10 wr) {Y : List ByteArray} {aY : Option Addr} {cY : Nat} (hY : SArg aY Y wr) (hd : ∀ g, rb aY = some g → rb a9 ≠ some g ∧ rb a10 ≠ some g ∧ g < wr.heap.size)
    (hp : rb a5 ≠ some gP) (hy : rb aY ≠ some gP) :
    LM base gP W ps a5 c5 Y aY cY RT a9 c9 EN a10 c10 ((wr.setCell ⟨gP, 0, none⟩ (.int .i64 (W : Int))).setCell ⟨gP, 1, none⟩ (.slice aY Y.length cY)) := by
  have hk : ∀ q, q ≠ gP → ((wr.setCell ⟨gP, 0, none⟩ (.int .i64 (W : Int))).setCell ⟨gP, 1, none⟩ (.slice aY Y.length cY)).heap[q]? = wr.heap[q]? := fun q hq => by
    rw [Below.heap_setCell _ _ _ _ (by exact hq), Below.heap_setCell _ _ _ _ (by exact hq)]
  have hsz : ((wr.setCell ⟨gP, 0, none⟩ (.int .i64 (W : Int))).setCell ⟨gP, 1, none⟩ (.slice aY Y.length cY)).heap.size = wr.heap.size := by simp
  refine ⟨h.p.moved (Nat.le_of_eq hsz.symm) (fun q hq _ => hk q (fun e => hp (e ▸ hq))), h.pc, heap_setCell_same _ gP 1 _ 29 _ (heap_setCell_same _ gP 0 _ 29 _ h.blk), hY.moved (Nat.le_of_eq hsz.symm) (fun q hq _ => hk q (fun e => hy (e ▸ hq))), ?_, ?_, ?_, ?_⟩
  · exact ownG_kept h.r (fun q hv _ => by
      obtain ⟨_, _, cur, h4⟩ := ownG_cells h.r hv
      exact hk q (ne_type h4 h.blk (by decide)))
  · exact ownG_kept h.e (fun q hv _ => by
      obtain ⟨_, _, cur, h4⟩ := ownG_cells h.e hv
      exact hk q (ne_type h4 h.blk (by decide)))
  · exact fun q hq => ⟨(h.dp q hq).1, (h.dp q hq).2.1, by rw [hsz]; exact (h.dp q hq).2.2⟩
  · exact fun q hq => ⟨(hd q hq).1, (hd q hq).2.1, by rw [hsz]; exact (hd q hq).2.2⟩
end
theorem read_ex (s : ByteArray) (n : Nat) : ∃ x : RecT, readPost s (n : Int) (.returned (recT x)) ∧ RecOk s.size n x := by
  have e : 64 * (n : Int).toNat = 64 * n := by omega
  by_cases h1 : ∃ enc, IsNode s (64 * n) enc
  · obtain ⟨enc, hE⟩ := h1
    refine ⟨⟨1, enc, 0, ⟨#[]⟩, n + secs enc.size⟩, .inl ⟨enc, by omega, by rw [e]; exact hE, ?_⟩, .inr (.inl ⟨rfl, hE.2.1, ?_, ?_⟩)⟩
    · show Ending.returned (recV 1 enc 0 ⟨#[]⟩ ((n + secs enc.size : Nat) : Int)) = _
      rw [Int.natCast_add]
    · show n < n + secs enc.size
      have : 0 < secs enc.size := by unfold secs; omega
      omega
    · show 64 * (n + secs enc.size) ≤ s.size
      have := hE.2.2.1; omega
  · by_cases h2 : ∃ v root, IsCommit s (64 * n) v root
    · obtain ⟨v, root, hE⟩ := h2
      refine ⟨⟨2, ⟨#[]⟩, v, root, n + 1⟩, .inr (.inl ⟨v, root, by omega, by rw [e]; exact hE, rfl⟩), .inr (.inr ⟨rfl, hE.2.2.1, ?_, ?_⟩)⟩
      · show n < n + 1; omega
      · show 64 * (n + 1) ≤ s.size
        have := hE.2.2.2.1; omega
    · exact ⟨⟨0, ⟨#[]⟩, 0, ⟨#[]⟩, 0⟩, .inr (.inr ⟨fun _ => ⟨fun enc h => h1 ⟨enc, by rw [e] at h; exact h⟩, fun v root h => h2 ⟨v, root, by rw [e] at h; exact h⟩⟩, rfl⟩), .inl rfl⟩

theorem reads_ex (s : ByteArray) : ∃ R, Reads s R := Classical.axiomOfChoice (read_ex s)
/-- Scan, over what can be read. -/
theorem scan_c (s : ByteArray) (hs : s.size ≤ 1048576) (wd : Nat) (h1 : 1 ≤ wd) (h2 : wd ≤ 32) (R : Nat → RecT) (hR : Reads s R) (w : World) (hk : KTab w) :
    Calls Tryz.prog 12 #[.string s, .int .i64 (wd : Int)] w (ScanPost R wd w) := by
  have hRd : ReadSaid 60 s R := fun m w' => (read_impl s (m : Int) w' (by omega)).mono fun e w'' ⟨h1, hb⟩ => ⟨h1.one (hR m).1, hb⟩
  exact scan_impl (K := KTab) (fun t w'' ht hk' => ehash_any t w'' ht hk') (fun w1 w2 q1 q2 => KTab.below q1 q2) s hs wd h1 h2 R (fun m => (hR m).2) hRd w hk
theorem ScanPost.rows {s : ByteArray} {R : Nat → RecT} {wd : Nat} (hR : Reads s R) (hs : s.size ≤ 1048576) {w w' : World} {e : Ending} (h : ScanPost R wd w e w') :
    ∃ st aN cN aR cR, e = .returned (.agg #[.slice aN st.nodes.length cN, .slice aR st.roots.length cR, .int .i64 (st.fin : Int)]) ∧ Reach R wd st ∧ stepS R wd st = none ∧ SArg aN st.nodes w' ∧ SArg aR st.roots w' ∧ Below w.heap.size w w' := by
  obtain ⟨st, aN, cN, aR, cR, rfl, hr, hn, o1, o2, _, hb⟩ := h
  have hI := hr.inv (fun m => (hR m).2)
  have k1 := hI.len
  have k2 := hI.sec
  refine ⟨st, aN, cN, aR, cR, rfl, hr, hn, own_sarg o1 (by omega) (fun j => ?_), own_sarg o2 (by omega) (fun j => ?_), hb⟩
  · rw [List.getD_eq_getElem?_getD]
    cases hj : st.nodes[j]? with
    | none => exact Nat.zero_le _
    | some e => exact Nat.le_trans (hI.enc e (List.mem_append_left _ (List.mem_of_getElem? hj))) (by decide)
  · rw [List.getD_eq_getElem?_getD]
    cases hj : st.roots[j]? with
    | none => exact Nat.zero_le _
    | some e => exact Nat.le_trans (hI.root e (List.mem_of_getElem? hj)) (by decide)
section
variable {wd i : Nat} {rs : List Rc} {X RT : List ByteArray} {EN : List Nat}
theorem whole_c (h : CI wd i rs X RT EN) (hi : i ≤ 7) (h1 : 1 ≤ wd) (h2 : wd ≤ 32) (w : World) (hk : KTab w) :
    Calls Tryz.prog 12 #[.string (imgT rs), .int .i64 (wd : Int)] w fun e w' => ∃ aN cN aR cR, e = .returned (.agg #[.slice aN X.length cN, .slice aR RT.length cR, .int .i64 ((imgT rs).size : Int)]) ∧ SArg aN X w' ∧ SArg aR RT w' ∧ Below w.heap.size w w' := by
  obtain ⟨R, hR⟩ := reads_ex (imgT rs)
  have hz : (imgT rs).size ≤ 1048576 := by
    rw [h.img]; have := h.sz; have : i * 2000 ≤ 7 * 2000 := Nat.mul_le_mul hi (Nat.le_refl _); omega
  refine (scan_c (imgT rs) hz wd h1 h2 R hR w hk).mono ?_
  intro e w' hp
  obtain ⟨st, aN, cN, aR, cR, rfl, hr, hn, s1, s2, hb⟩ := hp.rows hR hz
  have := scan_whole h hR hr hn
  subst this
  exact ⟨aN, cN, aR, cR, by rw [h.img], s1, s2, hb⟩
/-- What is left of a log that is not whole. -/
def finE (b : Nat) (EN : List Nat) (i : Nat) : Nat := if lastE b EN i = 0 then 0 else EN.getD (lastE b EN i - 1) 0
def PartPost (RT : List ByteArray) (EN : List Nat) (i b : Nat) (w : World) (e : Ending) (w' : World) : Prop := ∃ N1 aN cN aR cR, e = .returned (.agg #[.slice aN N1 cN, .slice aR (lastE b EN i) cR, .int .i64 (finE b EN i : Int)]) ∧ SArg aR (RT.take (lastE b EN i)) w' ∧ Below w.heap.size w w'
theorem part_c (h : CI wd i rs X RT EN) (hi : i ≤ 7) (h1 : 1 ≤ wd) (h2 : wd ≤ 32) {s' : ByteArray} {b : Nat} (hb : b < 64 * totS rs) (hA : Agree (imgT rs) s' b) (hbs : b ≤ s'.size) (hs' : s'.size ≤ (imgT rs).size)
    (hno : ∀ (n : Nat) (r : Rc), r.At (imgT rs) (64 * n) → 64 * n ≤ b → b < 64 * (n + r.sec) → (∀ enc, ¬ IsNode s' (64 * n) enc) ∧ ∀ v root, ¬ IsCommit s' (64 * n) v root) (w : World) (hk : KTab w) :
    Calls Tryz.prog 12 #[.string s', .int .i64 (wd : Int)] w (PartPost RT EN i b w) := by
  obtain ⟨R, hR⟩ := reads_ex s'
  have hz : s'.size ≤ 1048576 := by
    refine Nat.le_trans hs' ?_
    rw [h.img]; have := h.sz; have : i * 2000 ≤ 7 * 2000 := Nat.mul_le_mul hi (Nat.le_refl _); omega
  refine (scan_c s' hz wd h1 h2 R hR w hk).mono ?_
  intro e w' hp
  obtain ⟨st, aN, cN, aR, cR, rfl, hr, hn, s1, s2, hb'⟩ := hp.rows hR hz
  obtain ⟨q1, q2⟩ := scan_part h hb hA hbs hno hR hr hn
  have hl : st.roots.length = lastE b EN i := by rw [q1, List.length_take, h.rl]; have := lastE_le b EN i; omega
  exact ⟨st.nodes.length, aN, cN, aR, cR, by rw [hl, q2]; rfl, by rw [← q1]; exact s2, hb'⟩
theorem cut_c (h : CI wd i rs X RT EN) (hi : i ≤ 7) (h1 : 1 ≤ wd) (h2 : wd ≤ 32) {b : Nat} (hb : b < (imgT rs).size) (w : World) (hk : KTab w) :
    Calls Tryz.prog 12 #[.string ((imgT rs).extract 0 b), .int .i64 (wd : Int)] w (PartPost RT EN i b w) := by
  have hsz : ((imgT rs).extract 0 b).size = b := by rw [ByteArray.size_extract]; omega
  have hA : Agree (imgT rs) ((imgT rs).extract 0 b) b := fun p hp => by
    rw [ex_toList, List.drop_zero, Nat.sub_zero, List.getElem?_take_of_lt hp]
  exact part_c h hi h1 h2 (by rw [← h.img]; exact hb) hA (Nat.le_of_eq hsz.symm) (by rw [hsz]; omega) (fun n r hat _ hlt => no_cut hA hsz hat hlt) w hk
/-- A sector without its mark. -/
def hurtB (s : ByteArray) (m : Nat) : ByteArray := s.extract 0 (m + 63) ++ ⟨#[0]⟩ ++ s.extract (m + 64) s.size
theorem hurt_list (s : ByteArray) (m : Nat) : (hurtB s m).data.toList = s.data.toList.take (m + 63) ++ [0] ++ s.data.toList.drop (m + 64) := by
  unfold hurtB
  simp only [ByteArray.data_append, Array.toList_append]
  rw [ex_toList, ex_toList, List.drop_zero, Nat.sub_zero]
  congr 1
  rw [List.take_of_length_le]
  rw [List.length_drop]; exact Nat.le_refl _
theorem hurt_get (s : ByteArray) (m : Nat) (h : m + 64 ≤ s.size) : (∀ p, p ≠ m + 63 → (hurtB s m).data.toList[p]? = s.data.toList[p]?) ∧ (hurtB s m).data.toList.getD (m + 63) 0 = 0 ∧ (hurtB s m).size = s.size := by
  have hl : s.data.toList.length = s.size := rfl
  have h1 : (s.data.toList.take (m + 63)).length = m + 63 := by rw [List.length_take]; omega
  refine ⟨fun p hp => ?_, ?_, ?_⟩
  · rw [hurt_list]
    rcases Nat.lt_or_ge p (m + 63) with hlt | hge
    · rw [List.append_assoc, List.getElem?_append_left (by omega), List.getElem?_take_of_lt hlt]
    · rw [List.getElem?_append_right (by rw [List.length_append, h1]; show m + 63 + 1 ≤ p; omega), List.length_append, h1, List.getElem?_drop]
      congr 1
      show m + 64 + (p - (m + 63 + 1)) = p
      omega
  · rw [hurt_list, List.append_assoc, List.getD_eq_getElem?_getD, List.getElem?_append_right (by omega), h1, Nat.sub_self]; rfl
  · have : (hurtB s m).data.toList.length = s.size := by
      rw [hurt_list, List.length_append, List.length_append, h1, List.length_drop]
      show m + 63 + 1 + _ = _
      omega
    exact this
theorem hurt_c (h : CI wd i rs X RT EN) (hi : i ≤ 7) (h1 : 1 ≤ wd) (h2 : wd ≤ 32) {q : Nat} (hq : 64 * q < (imgT rs).size) (w : World) (hk : KTab w) :
    Calls Tryz.prog 12 #[.string (hurtB (imgT rs) (64 * q)), .int .i64 (wd : Int)] w (PartPost RT EN i (64 * q) w) := by
  have hi2 := h.img
  have hq2 : q < totS rs := by omega
  obtain ⟨g1, g2, g3⟩ := hurt_get (imgT rs) (64 * q) (by omega)
  exact part_c h hi h1 h2 (by omega) (fun p hp => g1 p (by omega)) (by rw [g3]; omega) (by rw [g3]; omega) (fun n r hat ha hb => no_hurt g1 g2 hat (by omega) (by omega)) w hk
end
theorem LM.en_at {base gP W : Nat} {ps : List PairT} {a5 : Option Addr} {c5 : Nat} {X : List ByteArray} {aX : Option Addr} {cX : Nat} {RT : List ByteArray} {a9 : Option Addr} {c9 : Nat} {EN : List Nat} {a10 : Option Addr} {c10 : Nat} {wr : World} (h : LM base gP W ps a5 c5 X aX cX RT a9 c9 EN a10 c10 wr) (k : Nat) (hk : k < EN.length) : ∃ g, a10 = some ⟨g, 0, none⟩ ∧ wr.cell? ⟨g, k, none⟩ = some (.int .i64 ((EN.getD k 0 : Nat) : Int)) := by
  rcases h.e.2 with ⟨hv, hn⟩ | ⟨g, cap, cur, hv, _⟩
  · omega
  · injection hv with e1 e2 e3
    subst e1
    refine ⟨g, rfl, ?_⟩
    have h1 := h.e.cellAt k (by omega)
    rw [h1, List.getElem?_map, List.getElem?_eq_getElem hk, List.getD_eq_getElem?_getD, List.getElem?_eq_getElem hk]; rfl
theorem SArg.take {a : Option Addr} {ss : List ByteArray} {W : World} (h : SArg a ss W) (k : Nat) : SArg a (ss.take k) W := by
  have hg : ∀ j, j < (ss.take k).length → (ss.take k).getD j ⟨#[]⟩ = ss.getD j ⟨#[]⟩ := fun j hj => by
    rw [List.length_take] at hj
    rw [List.getD_eq_getElem?_getD, List.getD_eq_getElem?_getD, List.getElem?_take_of_lt (by omega)]
  refine ⟨by rw [List.length_take]; have := h.le; omega, fun j => ?_, fun h0 => ?_⟩
  · by_cases hj : j < (ss.take k).length
    · rw [hg j hj]; exact h.sz j
    · rw [List.getD_eq_getElem?_getD, List.getElem?_eq_none (by omega)]; exact Nat.zero_le _
  · obtain ⟨b, off, rfl, hlt, hc⟩ := h.at_ (by rw [List.length_take] at h0; omega)
    exact ⟨b, off, rfl, hlt, fun j hj => by rw [hg j hj]; exact hc j (by rw [List.length_take] at hj; omega)⟩
end Go.Proofs.YtmfhfehemoeeeaaGreatDoor
