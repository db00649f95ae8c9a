import Derived.Test.YtibjhkpgaaapaaaGreatDoorZgbj
import Derived.Test.YtibjhkpgaaapaaaGreatDoorZgbk
import Derived.Test.YtibjhkpgaaapaaaGreatDoorZgbl
import Derived.Test.YtibjhkpgaaapaaaGreatDoorZgbe
import Derived.Test.YtibjhkpgaaapaaaGreatDoorZgbb
import Derived.Test.YtibjhkpgaaapaaaGreatDoorZgam
import Derived.Test.YtibjhkpgaaapaaaGreatDoorZgbi
import Derived.Test.YtibjhkpgaaapaaaGreatDoorZgat
import Derived.Test.YtibjhkpgaaapaaaGreatDoorZgan
import Derived.Deep.AppendLies
import Derived.Deep.RegionLaw
import Derived.Test.YtibjhkpgaaapaaaGreatDoorZgax
import Derived.Test.YtibjhkpgaaapaaaGreatDoorZgav
import Derived.Test.YtibjhkpgaaapaaaGreatDoorZgbc
import Derived.Test.YtibjhkpgaaapaaaGreatDoorZgau
set_option maxRecDepth 100000
set_option maxHeartbeats 1000000
namespace Go.Proofs.YtibjhkpgaaapaaaGreatDoor
open Go.RowKit Go.Proofs.Sha

theorem srange_any (HD : Hid DigSaid) (D : Dec) (n : Int) (HD2 : Hid (∀ wd : Nat, (wd : Int) = n → 1 ≤ wd → wd ≤ 32 → DecSaid 146 wd D)) (hdo : ∀ wd : Nat, (wd : Int) = n → DecOk wd D) (a : Option Addr) (ss : List ByteArray) (c : Nat) (root lo hi : ByteArray) (w : World) (h : SArg a ss w) (hs : Hid (∀ j, (ss.getD j ⟨#[]⟩).size ≤ 1048575)) (hr : root.size ≤ 1048576) (hlo : lo.size ≤ 1048576) (hhi : hi.size ≤ 1048576) :
    Calls Tryz.prog 48 #[.agg #[.int .i64 n, .slice a ss.length c], .string root, .string lo, .string hi] w (RangeAt (rangeM (fndD D n.toNat ss) n ss.length root lo hi) w) := by
  cases hp : (poolOk n ss.length && hashOk root.size n) with
  | false => rw [rangeM_bad hp]; exact srange_bad n _ ss.length c root lo hi w h.le hr hp
  | true =>
    have hp2 := (Bool.and_eq_true _ _).mp hp
    have hp' : 1 ≤ n ∧ n ≤ 32 ∧ ss.length ≤ 20000 := of_decide_eq_true hp2.1
    obtain ⟨wd, rfl⟩ : ∃ wd : Nat, n = (wd : Int) := ⟨n.toNat, by omega⟩
    rw [Int.toNat_natCast]
    exact srange_good HD D wd (HD2.out wd rfl (by omega) (by omega)) (hdo wd rfl) _ ss c root lo hi w h hs (by omega) (by omega) hr hlo hhi hp2.1 hp2.2
theorem proveM_code (fnd : ByteArray → FN) (n : Int) (m : Nat) (root lo hi : ByteArray) (h1 : poolOk n m = true → 0 ≤ n) : (rangeM fnd n m root lo hi).2 = (proveM fnd n m root lo hi).2 ∧ ((rangeM fnd n m root lo hi).2 ≠ 0 → (proveM fnd n m root lo hi).1 = ⟨#[]⟩) ∧ ((rangeM fnd n m root lo hi).2 = 0 → poolOk n m = true ∧ hashOk root.size n = true ∧ (goF fnd hgW lo hi 501 root ⟨#[]⟩ ⟨#[]⟩ ⟨#[]⟩ 0).1 = 0 ∧ (proveM fnd n m root lo hi).1 = ⟨(prL fnd lo hi 501 root ⟨#[]⟩ ⟨#[]⟩).toArray⟩) := by
  unfold rangeM proveM proveX
  cases hp : poolOk n m with
  | false => refine ⟨rfl, fun _ => rfl, fun h => ?_⟩; simp at h
  | true =>
    have e : ((n.toNat : Nat) : Int) = n := by have := h1 hp; omega
    rw [e]
    cases hh : hashOk root.size n with
    | false => refine ⟨rfl, fun _ => rfl, fun h => ?_⟩; simp at h
    | true =>
      simp only [Bool.and_self, if_true]
      by_cases h0 : (goF fnd hgW lo hi 501 root ⟨#[]⟩ ⟨#[]⟩ ⟨#[]⟩ 0).1 = 0
      · rw [if_pos h0, if_pos h0]
        exact ⟨rfl, fun h => absurd rfl h, fun _ => ⟨trivial, trivial, h0, rfl⟩⟩
      · rw [if_neg h0, if_neg h0]
        exact ⟨rfl, fun _ => rfl, fun h => absurd h h0⟩
theorem sprove_any (HD : Hid DigSaid) (D : Dec) (n : Int) (HD2 : Hid (∀ wd : Nat, (wd : Int) = n → 1 ≤ wd → wd ≤ 32 → DecSaid 146 wd D)) (hdo : ∀ wd : Nat, (wd : Int) = n → DecOk wd D) (a : Option Addr) (ss : List ByteArray) (c : Nat) (root lo hi : ByteArray) (w : World) (h : SArg a ss w) (hs : Hid (∀ j, (ss.getD j ⟨#[]⟩).size ≤ 1048575)) (hr : root.size ≤ 1048576) (hlo : lo.size ≤ 1048576) (hhi : hi.size ≤ 1048576) :
    Calls Tryz.prog 12 #[.agg #[.int .i64 n, .slice a ss.length c], .string root, .string lo, .string hi] w fun e w' => e = .returned (.tuple #[.string (proveM (fndD D n.toNat ss) n ss.length root lo hi).1, .int .i64 (proveM (fndD D n.toNat ss) n ss.length root lo hi).2]) ∧ Below w.heap.size w w' := by
  have hpo : poolOk n ss.length = true → 1 ≤ n ∧ n ≤ 32 ∧ ss.length ≤ 20000 := fun hp => of_decide_eq_true hp
  obtain ⟨q1, q2, q3⟩ := proveM_code (fndD D n.toNat ss) n ss.length root lo hi (fun hp => by have := hpo hp; omega)
  have HR : Hid (∀ w', Below w.heap.size w w' → Calls Tryz.prog 48 #[.agg #[.int .i64 n, .slice a ss.length c], .string root, .string lo, .string hi] w' fun e w'' => ∃ a' c', e = .returned (.tuple #[.slice a' (rangeM (fndD D n.toNat ss) n ss.length root lo hi).1.length c', .int .i64 (rangeM (fndD D n.toNat ss) n ss.length root lo hi).2]) ∧ Below w'.heap.size w' w'') := fun w' hb => by
    refine (srange_any HD D n HD2 hdo a ss c root lo hi w' (h.below hb) hs hr hlo hhi).mono ?_
    rintro e w'' ⟨⟨a', c', he, _⟩, hb2⟩
    exact ⟨a', c', he, hb2⟩
  have hA : Below w.heap.size w (w.alloc (.cells #[.int .i64 n, .slice a ss.length c] 31)) := (Below.refl _ _).alloc (Nat.le_refl _) _
  have nA := heap_alloc_new w (.cells #[.int .i64 n, .slice a ss.length c] 31)
  obtain ⟨RM, hRM⟩ : ∃ RM, rangeM (fndD D n.toNat ss) n ss.length root lo hi = RM := ⟨_, rfl⟩
  obtain ⟨PM, hPM⟩ : ∃ PM, proveM (fndD D n.toNat ss) n ss.length root lo hi = PM := ⟨_, rfl⟩
  rw [hRM] at q1 q2 q3 HR
  rw [hPM] at q1 q2 q3 ⊢
  obtain ⟨ga, hga⟩ : ∃ ga, w.heap.size = ga := ⟨_, rfl⟩
  have nA' : (w.alloc (.cells #[.int .i64 n, .slice a ss.length c] 31)).heap[ga]? = some (.cells #[.int .i64 n, .slice a ss.length c] 31) := by rw [← hga]; exact nA
  clear nA
  have z0 := Lib.cell_of_heap nA' 0
  have z1 := Lib.cell_of_heap nA' 1
  by_cases h0 : RM.2 = 0
  · obtain ⟨hp, hh, hg0, hX⟩ := q3 h0
    obtain ⟨p1, p2, p3⟩ := hpo hp
    obtain ⟨wd, rfl⟩ : ∃ wd : Nat, n = (wd : Int) := ⟨n.toNat, by omega⟩
    rw [Int.toNat_natCast] at hg0 hX
    have hsz : root.size = 0 ∨ root.size = wd := by
      unfold hashOk at hh
      rcases (Bool.or_eq_true _ _).mp hh with h | h
      · exact .inl (of_decide_eq_true h)
      · exact .inr (by have := of_decide_eq_true h; omega)
    obtain ⟨N, hN⟩ : ∃ N, ss.length = N := ⟨_, rfl⟩
    have HHS : Hid (∀ w', Below w.heap.size w w' → Calls Tryz.prog 50 #[.agg #[.int .i64 (wd : Int), .slice a N c]] w' fun e w'' => ∃ g c', e = .returned (.slice (some ⟨g, 0, none⟩) N c') ∧ (∀ W, Below w''.heap.size w'' W → Calls Tryz.prog 49 #[.agg #[.int .i64 (wd : Int), .slice a N c], .slice (some ⟨g, 0, none⟩) N c', .string root, .agg #[.string ⟨#[]⟩, .string ⟨#[]⟩], .string lo, .string hi] W fun e W' => e = .returned (.string PM.1) ∧ Below W.heap.size W W') ∧ Below w'.heap.size w' w'') := by
      intro w' hb
      have hA := h.below hb
      rw [← hN]
      refine (hashes_any HD wd a ss c w' hA hs (by omega) (by omega)).mono ?_
      rintro e w'' ⟨g, c', rfl, hrow, hb2⟩
      refine ⟨g, c', rfl, fun W hW => ?_, hb2⟩
      have hA2 := hA.below hb2
      have HDd := HD2.out wd rfl (by omega) (by omega)
      refine (lp_all (fndD D wd ss) wd (fndD_ok D wd ss (hdo wd rfl)) (by omega) a ss.length c g c' lo hi hlo hhi w'' (fun w3 hash hb3 => ?_) 501 root ⟨#[]⟩ ⟨#[]⟩ ⟨#[]⟩ 0 W (by omega) hsz hg0 hW (by decide) (by decide)).mono ?_
      · have := lfind_any D wd HDd a ss c g c' (ss.map (hashT wd)) hash w3 (hA2.below hb3) (by rw [List.length_map]) (Nat.lt_of_lt_of_le hrow.lt hb3.size) (fun j hj => by
          have e := (hrow.below hb3).cell j hj
          rw [e, List.getElem?_map, List.getD_eq_getElem?_getD, List.getElem?_eq_getElem (by rw [List.length_map]; exact hj)]
          rfl)
        rw [first_hash] at this
        exact this
      · rintro e W' ⟨⟨t, rfl, _, ht⟩, hb4⟩
        refine ⟨?_, hb4⟩
        rw [hX, ← ht.out]
    have e0 : Hid (PM.2 = 0) := by show _ = _; rw [← q1]; exact h0
    have HR' : Hid (∀ w', Below w.heap.size w w' → Calls Tryz.prog 48 #[.agg #[.int .i64 (wd : Int), .slice a N c], .string root, .string lo, .string hi] w' fun e w'' => ∃ a' c', e = .returned (.tuple #[.slice a' RM.1.length c', .int .i64 0]) ∧ Below w'.heap.size w' w'') := fun w' hb => by rw [← hN, ← h0]; exact HR.out w' hb
    rw [hN] at hA nA' z0 z1 ⊢
    rw [show PM.2 = 0 from e0.out]
    have hg1 : ga < (w.alloc (.cells #[.int .i64 (wd : Int), .slice a N c] 31)).heap.size := (Array.getElem?_eq_some_iff.1 nA').1
    clear HR q1 q2 q3 h0 hN hX hg0 hp hh hRM hPM h hs hsz
    go_enter Tryz.func12, Tryz.ntmps12
    go_upto_region 1 with fail
    generalize w.alloc (.cells #[.int .i64 (wd : Int), .slice a N c] 31) = W at hA nA' z0 z1 hg1 ⊢
    go_upto_region 4 with (first | (go_at_call 48; refine (HR'.out _ hA).mono ?_; rintro e w1 ⟨a', c', rfl, hb1⟩; have hw1 := hA.trans (hb1.mono hA.size); have n1 := below_cells hb1 nA'))
    clear hb1 z0 z1
    have z0 : w1.cell? ⟨ga, 0, none⟩ = some (.int .i64 (wd : Int)) := Lib.cell_of_heap n1 0
    have z1 : w1.cell? ⟨ga, 1, none⟩ = some (.slice a N c) := Lib.cell_of_heap n1 1
    go_region_held3 (fun W => W.cell? ⟨ga, 0, none⟩ = some (.int .i64 (wd : Int)) ∧ W.cell? ⟨ga, 1, none⟩ = some (.slice a N c)) (first | exact ⟨z0, z1⟩ | exact ⟨Lib.cell_of_heap n2 0, Lib.cell_of_heap n2 1⟩ | exact ⟨Lib.cell_of_heap n3 0, Lib.cell_of_heap n3 1⟩) (first | (go_at_call 50; refine (HHS.out w1.drew hw1.drew).mono ?_; rintro e w2 ⟨g, c', rfl, HGG, hb2⟩; have hb2' : Below w1.heap.size w1 w2 := (Below.refl w1.heap.size w1).drew.trans hb2; have n2 := below_cells hb2' n1; have hw2 := hw1.trans (hb2'.mono hw1.size)) | (go_at_call 49; refine (HGG w2 (Below.refl _ _)).mono ?_; rintro e w3 ⟨rfl, hb3⟩; have n3 := below_cells hb3 n2; have hw3 := hw2.trans (hb3.mono hw2.size)))
    go_wp2_with fail
    go_ret2
    exact ⟨rfl, hw3⟩
  · have e0 := q2 h0
    have HR' : Hid (∀ w', Below w.heap.size w w' → Calls Tryz.prog 48 #[.agg #[.int .i64 n, .slice a ss.length c], .string root, .string lo, .string hi] w' fun e w'' => ∃ a' c', e = .returned (.tuple #[.slice a' RM.1.length c', .int .i64 PM.2]) ∧ Below w'.heap.size w' w'') := fun w' hb => by rw [← q1]; exact HR.out w' hb
    rw [q1] at h0
    rw [e0]
    have zz : (PM.2 == 0) = false := by simp [h0]
    clear HR q1 q2 q3 hRM hPM h hs e0
    go_enter Tryz.func12, Tryz.ntmps12
    go_wp2_with (first | (go_at_call 48; refine (HR'.out _ hA).mono ?_; rintro e w1 ⟨a', c', rfl, hb1⟩))
    go_ret2
    exact ⟨rfl, hA.trans (hb1.mono hA.size)⟩
theorem ku_app {a b : List ByteArray} (h : KeysUp (a ++ b)) : KeysUp a ∧ KeysUp b ∧ ∀ x ∈ a, ∀ y ∈ b, lessB x y = true := by
  induction a with
  | nil => exact ⟨trivial, h, fun x hx => by cases hx⟩
  | cons k ks ih =>
    obtain ⟨h1, h2⟩ := h
    obtain ⟨q1, q2, q3⟩ := ih h2
    refine ⟨⟨fun x hx => h1 x (List.mem_append_left _ hx), q1⟩, q2, fun x hx y hy => ?_⟩
    rcases List.mem_cons.1 hx with rfl | hx
    · exact h1 y (List.mem_append_right _ hy)
    · exact q3 x hx y hy
theorem filter_no {p : PairT → Bool} {l : List PairT} (h : ∀ x ∈ l, p x = false) : l.filter p = [] := List.filter_eq_nil_iff.2 fun x hx => by rw [h x hx]; decide
theorem mem_keys {p : PairT} {l : List PairT} (h : p ∈ l) : p.1 ∈ keys l := List.mem_map.2 ⟨p, h, rfl⟩
theorem ku_apart : ∀ {ps : List PairT}, KeysUp (keys ps) → Apart ps
  | [], _ => List.Pairwise.nil
  | x :: xs, h => List.Pairwise.cons (fun y hy e => by have := h.1 _ (mem_keys hy); rw [e, lessB_irr] at this; cases this) (ku_apart h.2)
/-- All below 'base' but 'c' is as it was. -/
abbrev Ub (base c : Nat) : World → World → Prop := Upd (fun k => k = c ∨ base ≤ k)
theorem own2_parg {w : World} {base cap : Nat} {a : Option Addr} {ps : List PairT} (h : w.ownsRow base 81 2 (.slice a ps.length cap) ps.length (flatP ps)) (hs : SmallP ps) : PArg a ps w := by
  refine ⟨hs.1, hs.2, fun hn => ?_⟩
  rcases h.2 with ⟨e, h0⟩ | ⟨g, cap', cur, e, hb, hg, q1, q2, q3, q4⟩
  · omega
  · simp only [Value.slice.injEq] at e
    obtain ⟨rfl, _, _⟩ := e
    refine ⟨g, 0, rfl, (Array.getElem?_eq_some_iff.1 hg).1, fun j hj => ?_⟩
    obtain ⟨e0, e1⟩ := flatP_get ps j hj
    rw [← q4] at e0 e1
    rw [List.getElem?_take, if_pos (by omega)] at e0 e1
    rw [Nat.zero_add]
    exact ⟨(Lib.cell_of_heap hg _).trans (by simpa using e0), (Lib.cell_of_heap hg _).trans (by simpa using e1)⟩
/-- What a saving holds after some encodings: what is added, or what is wrong. -/
inductive SvR
  | go (added : List ByteArray)
  | full
  | clash (first enc : ByteArray)
/-- One encoding is taken. -/
def svStep (wd : Nat) (ss : List ByteArray) : SvR → ByteArray → SvR
  | .go ad, e => match firstI (hitB wd (ss ++ ad) (hashT wd e)) (ss.length + ad.length) with
    | some i => if (ss ++ ad).getD i ⟨#[]⟩ = e then .go ad else .clash ((ss ++ ad).getD i ⟨#[]⟩) e
    | none => if 20000 ≤ ss.length + ad.length then .full else .go (ad ++ [e])
  | r, _ => r
def svAll (wd : Nat) (ss es : List ByteArray) : SvR := es.foldl (svStep wd ss) (.go [])
theorem svAll_app (wd : Nat) (ss es : List ByteArray) (e : ByteArray) : svAll wd ss (es ++ [e]) = svStep wd ss (svAll wd ss es) e := by
  unfold svAll
  rw [List.foldl_append]
  rfl
def atI : Option Nat → Int
  | some i => (i : Int)
  | none => -1
def sameB (xs : List ByteArray) (s : ByteArray) (i : Nat) : Bool := decide (xs.getD i ⟨#[]⟩ = s)
theorem l4At_any (a : Option Addr) (xs : List ByteArray) (c : Nat) (s : ByteArray) (w : World) (h : SArg a xs w) :
    Calls Tryz.prog 81 #[.slice a xs.length c, .string s] w fun e w' => e = .returned (.int .i64 (atI (firstI (sameB xs s) xs.length))) ∧ Below w.heap.size w w' := by
  have hn := h.le
  obtain ⟨N, hN⟩ : ∃ N, xs.length = N := ⟨_, rfl⟩
  rw [hN] at hn ⊢
  have hNl : Hid (xs.length = N) := hN
  clear hN
  obtain ⟨R, hR⟩ : ∃ R, firstI (sameB xs s) N = R := ⟨_, rfl⟩
  rw [hR]
  have HR : Hid (firstI (sameB xs s) N = R) := hR
  clear hR
  go_enter Tryz.func81, Tryz.ntmps81
  go_wp2_with fail
  go_loopw [5] (fun t wr => ∃ k : Nat, k ≤ N ∧ t = .int .i64 (k : Int) ∧ Hid (firstI (sameB xs s) k = none) ∧ Below w.heap.size w wr) (fun t _ => N - (intOf t).toNat)
  case atStart => exact ⟨0, Nat.zero_le _, rfl, rfl, Below.refl _ _⟩
  case round =>
    obtain ⟨k, hk, rfl, hf, hbw⟩ := hrel
    by_cases hlt : k < N
    · have z1 : decide ((k : Int) < (N : Int)) = true := by simp; omega
      have hx0 : (0 : Int) ≤ (k : Int) := Int.natCast_nonneg _
      have hx1 : (k : Int) < (N : Int) := by omega
      obtain ⟨b1, off1, rfl, hbl1, hc⟩ := (h.below hbw).at_ (by rw [hNl.out]; omega)
      have hc1 := hc k (by rw [hNl.out]; exact hlt)
      by_cases e : xs.getD k ⟨#[]⟩ = s
      · have hs : sameB xs s k = true := decide_eq_true e
        have hr : Hid (R = some k) := by
          have h1 := firstI_step_yes hf.out hs
          have h2 := firstI_up h1 (N - (k + 1))
          rw [show k + 1 + (N - (k + 1)) = N by omega, HR.out] at h2
          exact h2
        have z2 : ((xs.getD k ⟨#[]⟩).toList == s.toList) = true := by rw [ba_eq, decide_eq_true e]
        generalize xs.getD k ⟨#[]⟩ = y at hc1 z2
        clear e hs hc hf
        go_wp2_with fail
        go_ret
        exact ⟨by rw [hr.out]; rfl, hbw⟩
      · have hs : sameB xs s k = false := decide_eq_false e
        have hf2 : Hid (firstI (sameB xs s) (k + 1) = none) := firstI_step_no hf.out hs
        have z2 : ((xs.getD k ⟨#[]⟩).toList == s.toList) = false := by rw [ba_eq, decide_eq_false e]
        generalize xs.getD k ⟨#[]⟩ = y at hc1 z2
        clear e hs hc hf
        go_wp2_with fail
        go_roundw
        case rel => exact ⟨k + 1, hlt, by go_num, hf2.out, hbw⟩
        case measure => simp [intOf]; omega
    · obtain rfl : k = N := by omega
      have z1 : decide ((k : Int) < (k : Int)) = false := by simp
      have hr : Hid (R = none) := HR.out.symm.trans hf.out
      clear hf
      go_wp2_with fail
      go_ret
      exact ⟨by rw [hr.out]; rfl, hbw⟩
theorem ownG_cells {w : World} {base g n t z : Nat} {v : Value} {xs : List Value} (h : w.ownsRow base t z v n xs) (hv : v.ownBlock = some g) : base ≤ g ∧ g < w.heap.size ∧ ∃ cur, w.heap[g]? = some (.cells cur t (0, 0)) := by
  rcases h.2 with ⟨rfl, _⟩ | ⟨g', cap, cur, rfl, hb, hg, _⟩
  · cases hv
  · obtain rfl : g' = g := Option.some.inj hv
    exact ⟨hb, (Array.getElem?_eq_some_iff.1 hg).1, cur, hg⟩
theorem ownG_kept {w w' : World} {base n t z : Nat} {v : Value} {xs : List Value} (h : w.ownsRow base t z v n xs) (hk : ∀ g, v.ownBlock = some g → g < w.heap.size → w'.heap[g]? = w.heap[g]?) : w'.ownsRow base t z v n xs := by
  refine ⟨h.1, ?_⟩
  rcases h.2 with ⟨h1, h2⟩ | ⟨g, cap, cur, hv, hb, hg, rest⟩
  · exact .inl ⟨h1, h2⟩
  · exact .inr ⟨g, cap, cur, hv, hb, (hk g (by rw [hv]; rfl) (Array.getElem?_eq_some_iff.1 hg).1).trans hg, rest⟩
theorem ownG_mono {w : World} {base base' n t z : Nat} {v : Value} {xs : List Value} (h : w.ownsRow base t z v n xs) (hb : base' ≤ base) : w.ownsRow base' t z v n xs := by
  refine ⟨h.1, ?_⟩
  rcases h.2 with ⟨h1, h2⟩ | ⟨g, cap, cur, hv, hg, rest⟩
  · exact .inl ⟨h1, h2⟩
  · exact .inr ⟨g, cap, cur, hv, Nat.le_trans hb hg, rest⟩
/-- Pairs whose texts are in bounds. -/
def Bd (L : List PairT) : Prop := ∀ p ∈ L, p.1.size ≤ 1048576 ∧ p.2.size ≤ 1048576
theorem Bd.small {L : List PairT} (h : Bd L) (hl : L.length ≤ 1048576) : SmallP L := by
  refine ⟨hl, fun j => ?_⟩
  by_cases hj : j < L.length
  · rw [List.getD_eq_getElem?_getD, List.getElem?_eq_getElem hj, Option.getD_some]
    exact h _ (List.getElem_mem hj)
  · rw [pget_out _ _ (by omega)]
    exact ⟨Nat.zero_le _, Nat.zero_le _⟩
theorem mem_ins' {k v : ByteArray} {x : PairT} : ∀ {ps : List PairT}, x ∈ ins k v ps → x = (k, v) ∨ x ∈ ps
  | [], h => by simpa [ins] using h
  | p :: ps, h => by
    rw [ins] at h
    split at h
    · simpa using h
    · rcases List.mem_cons.1 h with h | h
      · exact .inr (by rw [h]; exact List.mem_cons_self)
      · rcases mem_ins' h with h | h
        · exact .inl h
        · exact .inr (List.mem_cons_of_mem _ h)
theorem Bd.wth {L : List PairT} (h : Bd L) {k v : ByteArray} (hk : k.size ≤ 1048576) (hv : v.size ≤ 1048576) : Bd (wth L k v) := fun p hp => by
  rcases mem_ins' hp with e | e
  · rw [e]; exact ⟨hk, hv⟩
  · exact h p (List.mem_filter.1 e).1
theorem wth_len (L : List PairT) (k v : ByteArray) : (wth L k v).length ≤ L.length + 1 := by
  have hi : ∀ l : List PairT, (ins k v l).length = l.length + 1 := fun l => by
    induction l with
    | nil => rfl
    | cons p l ih => rw [ins]; split <;> simp [ih]
  unfold Proofs.YtibjhkpgaaapaaaGreatDoor.wth
  rw [hi]
  have := wout_le L k
  omega
/-- Texts of the call's own, while they are put together. -/
structure OwnT (w : World) (xs : List ByteArray) (a : Option Addr) (m c : Nat) (W : World) : Prop where
  own : W.ownsRow w.heap.size 9 1 (.slice a m c) m (xs.map Value.string)
  bel : Below w.heap.size w W
  len : xs.length = m
theorem OwnT.below {w W W' : World} {xs : List ByteArray} {a : Option Addr} {m c : Nat} (h : OwnT w xs a m c W) (hb : Below W.heap.size W W') : OwnT w xs a m c W' :=
  ⟨ownG_kept h.own (fun q _ hq => hb.block q hq), h.bel.trans (hb.mono h.bel.size), h.len⟩
theorem OwnT.more {w W W' : World} {xs : List ByteArray} {a : Option Addr} {m c m' g cap : Nat} {y : ByteArray} {o : Obj} (h : OwnT w xs a m c W) (hown : W'.ownsRow w.heap.size 9 1 (.slice (some ⟨g, 0, none⟩) m' cap) m' (xs.map Value.string ++ [.string y])) (hgrow : (W.alloc o).grownBy W' (Value.slice a m c).ownBlock) (hm : m' = m + 1) : OwnT w (xs ++ [y]) (some ⟨g, 0, none⟩) m' cap W' := by
  have ha := h.below ((Below.refl W.heap.size W).alloc (Nat.le_refl _) o)
  refine ⟨by rw [List.map_append]; exact hown, ha.bel.grown hgrow ha.bel.size (fun q hq => (ownG_cells ha.own hq).1), by rw [List.length_append, h.len, hm]; rfl⟩
theorem OwnT.up {w w1 W : World} {xs : List ByteArray} {a : Option Addr} {m c : Nat} (h : OwnT w1 xs a m c W) (hb : Below w.heap.size w w1) : OwnT w xs a m c W :=
  ⟨ownG_mono h.own hb.size, hb.trans (h.bel.mono hb.size), h.len⟩
theorem takeT (xs : List ByteArray) (i : Nat) (h : i < xs.length) : xs.take (i + 1) = xs.take i ++ [xs.getD i ⟨#[]⟩] := by
  rw [List.take_add_one, List.getElem?_eq_getElem h]
  simp [List.getD_eq_getElem?_getD, List.getElem?_eq_getElem h]
theorem copyPool_any (n : Int) (a : Option Addr) (xs : List ByteArray) (c : Nat) (w : World) (h : SArg a xs w) :
    Calls Tryz.prog 80 #[.agg #[.int .i64 n, .slice a xs.length c]] w fun e w' => ∃ a' c', e = .returned (.agg #[.int .i64 n, .slice a' xs.length c']) ∧ OwnT w xs a' xs.length c' w' := by
  obtain ⟨i0, hi0, hz0, hz1, hz2⟩ := info_parts2 info9
  have hn := h.le
  obtain ⟨N, hN⟩ : ∃ N, xs.length = N := ⟨_, rfl⟩
  rw [hN] at hn ⊢
  have hNl : Hid (xs.length = N) := hN
  clear hN
  have hW : Below w.heap.size w (((w.alloc (.cells #[.int .i64 n, .slice a N c] 31)).alloc (.cells #[.int .i64 0, .slice none 0 0] 31)).alloc (.cells #[] 9)) := (((Below.refl _ _).alloc (Nat.le_refl _) _).alloc (by simp) _).alloc (by simp; omega) _
  have n2 := heap_alloc_new ((w.alloc (.cells #[.int .i64 n, .slice a N c] 31)).alloc (.cells #[.int .i64 0, .slice none 0 0] 31)) (.cells #[] 9)
  rw [World.size_alloc, World.size_alloc] at n2
  have n1 : ((w.alloc (.cells #[.int .i64 n, .slice a N c] 31)).alloc (.cells #[.int .i64 0, .slice none 0 0] 31)).heap[w.heap.size + 1]? = some (.cells #[.int .i64 0, .slice none 0 0] 31) := by
    have := heap_alloc_new (w.alloc (.cells #[.int .i64 n, .slice a N c] 31)) (.cells #[.int .i64 0, .slice none 0 0] 31)
    rw [World.size_alloc] at this
    exact this
  have n0 : ((w.alloc (.cells #[.int .i64 n, .slice a N c] 31)).alloc (.cells #[.int .i64 0, .slice none 0 0] 31)).heap[w.heap.size]? = some (.cells #[.int .i64 n, .slice a N c] 31) := (Below.heap_alloc (w.alloc (.cells #[.int .i64 n, .slice a N c] 31)) (.cells #[.int .i64 0, .slice none 0 0] 31) w.heap.size (by simp)).trans (heap_alloc_new w _)
  have n1' := (Below.heap_alloc ((w.alloc (.cells #[.int .i64 n, .slice a N c] 31)).alloc (.cells #[.int .i64 0, .slice none 0 0] 31)) (.cells #[] 9) (w.heap.size + 1) (by simp)).trans n1
  have n0' := (Below.heap_alloc ((w.alloc (.cells #[.int .i64 n, .slice a N c] 31)).alloc (.cells #[.int .i64 0, .slice none 0 0] 31)) (.cells #[] 9) w.heap.size (by simp; omega)).trans n0
  have hzz : (((w.alloc (.cells #[.int .i64 n, .slice a N c] 31)).alloc (.cells #[.int .i64 0, .slice none 0 0] 31)).alloc (.cells #[] 9)).heap.size = w.heap.size + 3 := by simp
  have hO : OwnT w [] (some ⟨w.heap.size + 1 + 1, 0, none⟩) 0 0 (((w.alloc (.cells #[.int .i64 n, .slice a N c] 31)).alloc (.cells #[.int .i64 0, .slice none 0 0] 31)).alloc (.cells #[] 9)) := ⟨⟨rfl, .inr ⟨_, 0, #[], rfl, by omega, n2, by simp⟩⟩, hW, rfl⟩
  clear n0 n1 n2
  go_enter Tryz.func80, Tryz.ntmps80
  go_wp2_with fail
  generalize ((w.alloc (.cells #[.int .i64 n, .slice a N c] 31)).alloc (.cells #[.int .i64 0, .slice none 0 0] 31)).alloc (.cells #[] 9) = W0 at hW n1' n0' hzz hO ⊢
  obtain ⟨gp, hgp⟩ : ∃ g, w.heap.size = g := ⟨_, rfl⟩
  rw [hgp] at n1' n0' hzz hO
  try rw [hgp]
  have hgl : w.heap.size ≤ gp := Nat.le_of_eq hgp
  clear hgp hzz
  go_loopw [3, 4] (fun t3 t4 wr => ∃ k : Nat, k ≤ N ∧ t4 = .int .i64 (k : Int) ∧ ∃ (a' : Option Addr) (m c' : Nat), t3 = .slice a' m c' ∧ OwnT w (xs.take k) a' m c' wr ∧ wr.heap[gp]? = some (.cells #[.int .i64 n, .slice a N c] 31) ∧ wr.heap[gp + 1]? = some (.cells #[.int .i64 0, .slice none 0 0] 31)) (fun _ t4 _ => N - (intOf t4).toNat)
  case atStart => exact ⟨0, Nat.zero_le _, rfl, _, _, _, rfl, hO, n0', n1'⟩
  case round =>
    obtain ⟨k, hk, rfl, a', m, c', rfl, hT, m0, m1⟩ := hrel
    have p0 := Lib.cell_of_heap m0 0
    have p1 := Lib.cell_of_heap m0 1
    have own := hT.own
    have hbs := hT.bel.size
    by_cases hlt : k < N
    · have z1 : decide ((k : Int) < (N : Int)) = true := by simp; omega
      have hx0 : (0 : Int) ≤ (k : Int) := Int.natCast_nonneg _
      have hx1 : (k : Int) < (N : Int) := by omega
      obtain ⟨b1, off1, rfl, hbl1, hc⟩ := (h.below hT.bel).at_ (by rw [hNl.out]; omega)
      have hc1 := hc k (by rw [hNl.out]; exact hlt)
      have htk : Hid (xs.take (k + 1) = xs.take k ++ [xs.getD k ⟨#[]⟩]) := takeT xs k (by rw [hNl.out]; exact hlt)
      have hml : m ≤ 1048576 := by have := hT.len; rw [List.length_take] at this; omega
      generalize xs.getD k ⟨#[]⟩ = y at hc1 htk
      clear hc
      go_wp2_with (at_builtin; refine wpList_append_lies _ rfl (.tmp 13) (.tmp 19) 25 rfl w.heap.size 9 i0 (.string ⟨#[]⟩) 1 16 Tryz.underlying25 hi0 hz0 hz1 hz2 rfl (by decide) (.slice a' m c') m ((xs.take k).map Value.string) rfl (own.alloc _) ⟨wr.heap.size, 0, none⟩ 1 1 [.string y] rfl rfl (World.news_of_block (heap_alloc_new wr _)) (by simp [Value.oneCell']) (by decide) (by unfold maxLen; omega) (by omega) (by simp; omega) (wr.heap.size + 1) (by simp) ?_; intro g5 c5 w5 hown5 hgrow5 hat5 hlt5)
      go_roundw
      case rel =>
        have hk29 : ∀ (q : Nat) (cs : Array Value), wr.heap[q]? = some (.cells cs 31) → w5.heap[q]? = some (.cells cs 31) := fun q cs hq => by
          have hql := (Array.getElem?_eq_some_iff.1 hq).1
          have hqa := (Below.heap_alloc wr (.cells #[.string y] 9) q hql).trans hq
          refine (hgrow5.block q (by simp; omega) (fun e => ?_)).trans hqa
          obtain ⟨_, _, cur, h4⟩ := ownG_cells (own.alloc (.cells #[.string y] 9)) e.symm
          exact ne_of_type hqa h4 (by decide) rfl
        exact ⟨k + 1, hlt, by go_num, _, _, _, rfl, by rw [htk.out]; exact hT.more hown5 hgrow5 rfl, hk29 _ _ m0, hk29 _ _ m1⟩
      case measure => simp [intOf]; omega
    · obtain rfl : k = N := by omega
      have z1 : decide ((k : Int) < (k : Int)) = false := by simp
      rw [List.take_of_length_le (by rw [hNl.out]; exact Nat.le_refl _)] at hT
      have hl := hT.len
      rw [hNl.out] at hl
      subst hl
      have q0 := Lib.cell_of_heap m1 0
      have q1 := Lib.cell_of_heap m1 1
      have fz : ∀ j, wr.frozen? ⟨gp + 1, j, none⟩ = false := fun j => by rw [World.frozen?, m1]; rfl
      have m2 := heap_setCell_same _ (gp + 1) 1 _ 31 (.slice a' k c') (heap_setCell_same _ (gp + 1) 0 _ 31 (.int .i64 n) m1)
      have hT2 : OwnT w xs a' k c' ((wr.setCell ⟨gp + 1, 0, none⟩ (.int .i64 n)).setCell ⟨gp + 1, 1, none⟩ (.slice a' k c')) := by
        have hb2 := (hT.bel.setCell (p := ⟨gp + 1, 0, none⟩) (by show w.heap.size ≤ gp + 1; omega) (.int .i64 n)).setCell (p := ⟨gp + 1, 1, none⟩) (by show w.heap.size ≤ gp + 1; omega) (.slice a' k c')
        refine ⟨ownG_kept hT.own (fun q hv hq => ?_), hb2, hT.len⟩
        obtain ⟨_, _, cur, h4⟩ := ownG_cells hT.own hv
        have hne : q ≠ gp + 1 := ne_of_type h4 m1 (by decide)
        rw [Below.heap_setCell _ _ _ _ (by show q ≠ gp + 1; exact hne), Below.heap_setCell _ _ _ _ (by show q ≠ gp + 1; exact hne)]
      clear hT own
      go_wp2_with fail
      exact retP Tryz.results80 rfl rfl m2 ⟨a', c', rfl, hT2⟩
/-- What Save answers, as a value. -/
abbrev svV (cd n : Int) (a : Option Addr) (m c : Nat) (root x y : ByteArray) : Value := .agg #[.int .i64 cd, .int .i64 n, .slice a m c, .string root, .string x, .string y]
/-- The first encoding of a hash, in the old stock or in what is added. -/
def fst2 (wd : Nat) (ss ad : List ByteArray) (hash : ByteArray) : Option ByteArray := (firstI (hitB wd (ss ++ ad) hash) (ss.length + ad.length)).map fun i => (ss ++ ad).getD i ⟨#[]⟩
end Go.Proofs.YtibjhkpgaaapaaaGreatDoor
