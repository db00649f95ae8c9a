import Derived.Test.YtmfhfehemoeeeaaGreatDoorZsbd
import Derived.Test.YtmfhfehemoeeeaaGreatDoorZsbb
import Derived.Test.YtmfhfehemoeeeaaGreatDoorZsaw
import Derived.Test.YtmfhfehemoeeeaaGreatDoorZsaz
import Derived.Test.YtmfhfehemoeeeaaGreatDoorZsba
import Derived.Test.YtmfhfehemoeeeaaGreatDoorZsaa
import Derived.Test.YtmfhfehemoeeeaaGreatDoorZsbc
set_option maxRecDepth 100000
set_option maxHeartbeats 3000000
namespace Go.Proofs.YtmfhfehemoeeeaaGreatDoor
open Go.RowKit Go.Proofs.Sha

def keyAt (ps : List PairT) (k : Nat) : ByteArray := (ps.getD k noPair).1
def shaB (s : ByteArray) : ByteArray := ⟨(sha s.data.toList).toArray⟩
theorem shaB_size (s : ByteArray) : (shaB s).size = 32 := by
  show (sha s.data.toList).toArray.size = 32
  rw [List.size_toArray, sha_len]
/-- 'a' beats 'b'. -/
def beats (x y a b : ByteArray) : Bool := Op.bytesLess y.data.toList x.data.toList || ((x.toList == y.toList) && Op.bytesLess a.data.toList b.data.toList)
/-- The place of the highest of the first 'k + 1'. -/
def topTo (ps : List PairT) : Nat → Nat
  | 0 => 0
  | k + 1 => if beats (shaB (keyAt ps (k + 1))) (shaB (keyAt ps (topTo ps k))) (keyAt ps (k + 1)) (keyAt ps (topTo ps k)) = true then k + 1 else topTo ps k
theorem topTo_le (ps : List PairT) : ∀ k, topTo ps k ≤ k
  | 0 => Nat.le_refl _
  | k + 1 => by
    rw [topTo]
    split
    · exact Nat.le_refl _
    · exact Nat.le_succ_of_le (topTo_le ps k)

theorem top_any (a : Option Addr) (ps : List PairT) (c : Nat) (w : World) (h : PArg a ps w) (h0 : 0 < ps.length) :
    Calls Tryz.prog 44 #[.slice a ps.length c] w fun e w' => e = .returned (.int .i64 (topTo ps (ps.length - 1) : Int)) ∧ Below w.heap.size w w' := by
  have hn := h.le
  have HW : ∀ w', Below w.heap.size w w' → PArg a ps w' := fun w' hb => h.below hb
  obtain ⟨b, off, rfl, hbl, hc⟩ := h.at_ h0
  have HC : ∀ w', Below w.heap.size w w' → ∀ j, j < ps.length → w'.cell? ⟨b, off + j * 2, none⟩ = some (.string (keyAt ps j)) := fun w' hb j hj => (hb.cell (p := ⟨b, off + j * 2, none⟩) hbl).trans (hc j hj).1
  obtain ⟨n, hnn⟩ : ∃ n, ps.length = n := ⟨_, rfl⟩
  rw [hnn]
  rw [hnn] at hn h0
  have HS : ∀ j, (keyAt ps j).size ≤ 1048576 := fun j => (h.sz j).1
  replace HW : Hid _ := HW
  replace HS : Hid _ := HS
  rw [hnn] at HC
  replace HC : Hid _ := HC
  have hnl : Hid (ps.length = n) := hnn
  have hc0 : w.cell? ⟨b, off + 0 * 2, none⟩ = some (.string (keyAt ps 0)) := HC.out w (Below.refl _ _) 0 h0
  have hc0' : w.cell? ⟨b, off, none⟩ = some (.string (keyAt ps 0)) := hc0
  have y0 : (0 : Int) < (n : Int) := by omega
  have H0 := fun w' => spec_any (keyAt ps 0) w' (HS.out 0)
  have hX0 : Hid ((⟨(sha (keyAt ps 0).data.toList).toArray⟩ : ByteArray) = shaB (keyAt ps 0)) := rfl
  generalize (⟨(sha (keyAt ps 0).data.toList).toArray⟩ : ByteArray) = X0 at H0 hX0
  replace H0 : Hid _ := H0
  clear hnn hc h hc0
  generalize hk0 : keyAt ps 0 = k0 at hc0' H0
  have hk0' : Hid (keyAt ps 0 = k0) := hk0
  clear hk0
  go_enter Tryz.func44, Tryz.ntmps44
  go_wp2_with (go_at_call 56; refine (H0.out _).mono ?_)
  rintro _ w1 ⟨rfl, hb1⟩
  go_wp2_with fail
  go_loopw [3, 4, 5] (fun t3 t4 t5 wr => ∃ k T j : Nat, Hid (topTo ps k = T) ∧ Hid (j = k + 1) ∧ T ≤ k ∧ k < n ∧ t3 = .int .i64 (T : Int) ∧ t4 = .string (shaB (keyAt ps T)) ∧ t5 = .int .i64 (j : Int) ∧ Below w.heap.size w wr) (fun _ _ t5 _ => n - (intOf t5).toNat)
  case atStart => exact ⟨0, 0, 1, rfl, rfl, Nat.le_refl _, h0, rfl, by rw [← hX0.out], rfl, hb1⟩
  case round =>
    obtain ⟨k, T, j, hT, hj, hTk, hk, rfl, rfl, rfl, hbw⟩ := hrel
    by_cases hlt : j < n
    · have z3 : decide ((j : Int) < (n : Int)) = true := by simp; omega
      have z4 : decide (j < n) = true := by rw [decide_eq_true_eq]; exact hlt
      have z0 : (0 : Int) ≤ (j : Int) := Int.natCast_nonneg _
      have z1 : (j : Int) < (n : Int) := by omega
      have q0 : (0 : Int) ≤ (T : Int) := Int.natCast_nonneg _
      have q1 : (T : Int) < (n : Int) := by omega
      have hc1 := HC.out wr hbw j hlt
      have H1 := fun w' => spec_any (keyAt ps j) w' (HS.out j)
      have hX : Hid ((⟨(sha (keyAt ps j).data.toList).toArray⟩ : ByteArray) = shaB (keyAt ps j)) := rfl
      rw [hX.out] at H1
      have hxs := shaB_size (keyAt ps j)
      have hys := shaB_size (keyAt ps T)
      have hks := HS.out j
      have hls := HS.out T
      have hst : Hid (topTo ps j = if beats (shaB (keyAt ps j)) (shaB (keyAt ps T)) (keyAt ps j) (keyAt ps T) = true then j else T) := by
        show _ = _
        rw [hj.out, topTo, hT.out]
      have HD : ∀ w', Below w.heap.size w w' → w'.cell? ⟨b, off + j * 2, none⟩ = some (.string (keyAt ps j)) ∧ w'.cell? ⟨b, off + T * 2, none⟩ = some (.string (keyAt ps T)) := fun w' hb => ⟨HC.out w' hb j hlt, HC.out w' hb T (by omega)⟩
      obtain ⟨x, hx⟩ : ∃ x, shaB (keyAt ps j) = x := ⟨_, rfl⟩
      obtain ⟨y, hy⟩ : ∃ y, shaB (keyAt ps T) = y := ⟨_, rfl⟩
      obtain ⟨kj, hkj⟩ : ∃ x, keyAt ps j = x := ⟨_, rfl⟩
      obtain ⟨kt, hkt⟩ : ∃ x, keyAt ps T = x := ⟨_, rfl⟩
      rw [hx, hy, hkj, hkt] at hst
      rw [hy]
      rw [hx] at hxs
      rw [hy] at hys
      rw [hkj] at hks
      rw [hkt] at hls
      rw [hkj, hkt] at HD
      rw [hkj] at hc1
      rw [hx, hkj] at H1
      have hxx : Hid (shaB (keyAt ps j) = x) := hx
      have hyy : Hid (shaB (keyAt ps T) = y) := hy
      have hxl : x.size ≤ 1048576 := by omega
      have hyl : y.size ≤ 1048576 := by omega
      replace HD : Hid _ := HD
      replace H1 : Hid _ := H1
      have H2 := fun w' => less_q y x w' hyl hxl
      have H3 := fun w' => less_q kj kt w' hks hls
      clear hx hy hkj hkt hxs hys hxl hyl hX
      go_upto_region 7 with (go_at_call 56; refine (H1.out _).mono ?_)
      rintro _ w2 ⟨rfl, hb2⟩
      have hbw2 : Below w.heap.size w w2 := hbw.trans (hb2.mono hbw.size)
      obtain ⟨hd1, hd2⟩ := HD.out w2 hbw2
      clear hb2 hbw hc1
      have hTj : T ≤ j := by have := hj.out; omega
      go_upto_region 7 with fail
      cases v1 : Op.bytesLess y.data.toList x.data.toList with
      | true =>
        rw [v1] at H2
        have hbt : Hid (beats x y kj kt = true) := by show _ = _; unfold beats; rw [v1, Bool.true_or]
        replace H2 : Hid _ := H2
        replace H3 : Hid _ := H3
        clear v1
        go_quiet (first | (go_at_call_of 43 (Value.string y); exact Calls.quiet_of (H2.out _)) | (go_at_call_of 43 (Value.string kj); exact Calls.quiet_of (H3.out _)))
        go_wp2_with fail
        go_roundw
        case rel => exact ⟨j, j, j + 1, by show _ = _; rw [hst.out, hbt.out]; rfl, rfl, Nat.le_refl _, hlt, rfl, by rw [hxx.out], by go_num, below_draws nq hbw2⟩
        case measure => simp [intOf]; omega
      | false =>
        rw [v1] at H2
        replace H2 : Hid _ := H2
        cases v2 : (x.toList == y.toList) with
        | false =>
          have hbt : Hid (beats x y kj kt = false) := by show _ = _; unfold beats; rw [v1, v2]; rfl
          replace H3 : Hid _ := H3
          clear v1
          go_quiet (first | (go_at_call_of 43 (Value.string y); exact Calls.quiet_of (H2.out _)) | (go_at_call_of 43 (Value.string kj); exact Calls.quiet_of (H3.out _)))
          go_wp2_with fail
          go_roundw
          case rel => exact ⟨j, T, j + 1, by show _ = _; rw [hst.out, hbt.out]; rfl, rfl, hTj, hlt, rfl, by rw [hyy.out], by go_num, below_draws nq hbw2⟩
          case measure => simp [intOf]; omega
        | true =>
          have hb3 : Hid (beats x y kj kt = Op.bytesLess kj.data.toList kt.data.toList) := by show _ = _; unfold beats; rw [v1, v2]; rfl
          clear v1
          cases v3 : Op.bytesLess kj.data.toList kt.data.toList with
          | true =>
            rw [v3] at H3 hb3
            replace H3 : Hid _ := H3
            clear v3
            go_quiet (first | (go_at_call_of 43 (Value.string y); exact Calls.quiet_of (H2.out _)) | (go_at_call_of 43 (Value.string kj); exact Calls.quiet_of (H3.out _)))
            go_wp2_with fail
            go_roundw
            case rel => exact ⟨j, j, j + 1, by show _ = _; rw [hst.out, hb3.out]; rfl, rfl, Nat.le_refl _, hlt, rfl, by rw [hxx.out], by go_num, below_draws nq hbw2⟩
            case measure => simp [intOf]; omega
          | false =>
            rw [v3] at H3 hb3
            replace H3 : Hid _ := H3
            clear v3
            go_quiet (first | (go_at_call_of 43 (Value.string y); exact Calls.quiet_of (H2.out _)) | (go_at_call_of 43 (Value.string kj); exact Calls.quiet_of (H3.out _)))
            go_wp2_with fail
            go_roundw
            case rel => exact ⟨j, T, j + 1, by show _ = _; rw [hst.out, hb3.out]; rfl, rfl, hTj, hlt, rfl, by rw [hyy.out], by go_num, below_draws nq hbw2⟩
            case measure => simp [intOf]; omega
    · have z3 : decide ((j : Int) < (n : Int)) = false := by simp; omega
      have hjn : n - 1 = k := by have := hj.out; omega
      have hTn : Hid (topTo ps (n - 1) = T) := by show _ = _; rw [hjn]; exact hT.out
      clear hjn hT hj
      go_wp2_with fail
      go_ret
      exact ⟨by rw [hTn.out]; rfl, hbw⟩
theorem less_irr (a : List UInt8) : Op.bytesLess a a = false := by
  induction a with
  | nil => rfl
  | cons x y ih => rw [Op.bytesLess]; simp [ih]
theorem beats_rk (x y a b : ByteArray) : beats x y a b = rk x.data.toList y.data.toList a.data.toList b.data.toList := by
  unfold beats rk
  rw [ByteArray.toList_eq, ByteArray.toList_eq]
  by_cases h : x.data.toList = y.data.toList
  · rw [if_pos h, h, less_irr, Bool.false_or, beq_self_eq_true, Bool.true_and]
  · rw [if_neg h, beq_eq_false_iff_ne.2 h, Bool.false_and, Bool.or_false]
end Go.Proofs.YtmfhfehemoeeeaaGreatDoor
namespace Go.Proofs.Sha

/-- A tree of whatever, by itself. -/
inductive Tr (α : Type) where
  | nil : Tr α
  | node (l : Tr α) (x : α) (r : Tr α) : Tr α
section
variable {α : Type} (ab : α → α → Bool)
def Tr.inord : Tr α → List α
  | .nil => []
  | .node l x r => l.inord ++ x :: r.inord
def Tr.size : Tr α → Nat
  | .nil => 0
  | .node l _ r => l.size + r.size + 1
/-- Each is above all below it. -/
def Tr.heap : Tr α → Prop
  | .nil => True
  | .node l x r => (∀ y ∈ l.inord, ab x y = true) ∧ (∀ y ∈ r.inord, ab x y = true) ∧ l.heap ∧ r.heap
/-- Two trees joined, the first ahead of the second. -/
def Tr.merge : Tr α → Tr α → Tr α
  | .nil, b => b
  | .node l x r, .nil => .node l x r
  | .node l x r, .node l2 y r2 => if ab x y then .node l x (Tr.merge r (.node l2 y r2)) else .node (Tr.merge (.node l x r) l2) y r2
termination_by a b => a.size + b.size
decreasing_by
  all_goals simp only [Tr.size]; omega
theorem Tr.merge_inord (a b : Tr α) : (Tr.merge ab a b).inord = a.inord ++ b.inord := by
  fun_induction Tr.merge ab a b with
  | case1 b => rfl
  | case2 l x r => simp [Tr.inord]
  | case3 l x r l2 y r2 h ih => simp only [Tr.inord] at ih ⊢; rw [ih]; simp
  | case4 l x r l2 y r2 h ih => simp only [Tr.inord] at ih ⊢; rw [ih]; simp
/-- What is asked of the order, among the elements of a list: of two one is above the other, and not the other way; it goes on from one to the next. -/
structure Ranked (l : List α) : Prop where
  tot : ∀ x ∈ l, ∀ y ∈ l, x ≠ y → ab x y = true ∨ ab y x = true
  asy : ∀ x ∈ l, ∀ y ∈ l, ab x y = true → ab y x = false
  tra : ∀ x ∈ l, ∀ y ∈ l, ∀ z ∈ l, ab x y = true → ab y z = true → ab x z = true
theorem Ranked.sub {l m : List α} (h : Ranked ab l) (hs : ∀ x ∈ m, x ∈ l) : Ranked ab m :=
  ⟨fun x hx y hy => h.tot x (hs x hx) y (hs y hy), fun x hx y hy => h.asy x (hs x hx) y (hs y hy), fun x hx y hy z hz => h.tra x (hs x hx) y (hs y hy) z (hs z hz)⟩
theorem Tr.merge_heap (a b : Tr α) (ha : a.heap ab) (hb : b.heap ab) (hr : Ranked ab (a.inord ++ b.inord)) (hd : ∀ x ∈ a.inord, ∀ y ∈ b.inord, x ≠ y) : (Tr.merge ab a b).heap ab := by
  fun_induction Tr.merge ab a b with
  | case1 b => exact hb
  | case2 l x r => exact ha
  | case3 l x r l2 y r2 h ih =>
    obtain ⟨p1, p2, p3, p4⟩ := ha
    have hxm : x ∈ (Tr.node l x r).inord ++ (Tr.node l2 y r2).inord := by simp [Tr.inord]
    have hym : y ∈ (Tr.node l x r).inord ++ (Tr.node l2 y r2).inord := by simp [Tr.inord]
    refine ⟨p1, fun z hz => ?_, p3, ih p4 hb (hr.sub ab (fun z hz => ?_)) (fun u hu v hv => hd u (by simp [Tr.inord, hu]) v hv)⟩
    · rw [Tr.merge_inord, List.mem_append] at hz
      rcases hz with hz | hz
      · exact p2 z hz
      · obtain ⟨q1, q2, _, _⟩ := hb
        have hzm : z ∈ (Tr.node l x r).inord ++ (Tr.node l2 y r2).inord := List.mem_append_right _ hz
        simp only [Tr.inord, List.mem_append, List.mem_cons] at hz
        rcases hz with hz | rfl | hz
        · exact hr.tra x hxm y hym z hzm h (q1 z hz)
        · exact h
        · exact hr.tra x hxm y hym z hzm h (q2 z hz)
    · rw [List.mem_append] at hz ⊢
      rcases hz with hz | hz
      · left; simp [Tr.inord, hz]
      · exact .inr hz
  | case4 l x r l2 y r2 h ih =>
    obtain ⟨p1, p2, p3, p4⟩ := hb
    have hxm : x ∈ (Tr.node l x r).inord ++ (Tr.node l2 y r2).inord := by simp [Tr.inord]
    have hym : y ∈ (Tr.node l x r).inord ++ (Tr.node l2 y r2).inord := by simp [Tr.inord]
    have hyx : ab y x = true := by
      rcases hr.tot x hxm y hym (hd x (by simp [Tr.inord]) y (by simp [Tr.inord])) with q | q
      · exact absurd q h
      · exact q
    refine ⟨fun z hz => ?_, p2, ih ha p3 (hr.sub ab (fun z hz => ?_)) (fun u hu v hv => hd u hu v (by simp [Tr.inord, hv])), p4⟩
    · rw [Tr.merge_inord, List.mem_append] at hz
      rcases hz with hz | hz
      · obtain ⟨q1, q2, _, _⟩ := ha
        have hzm : z ∈ (Tr.node l x r).inord ++ (Tr.node l2 y r2).inord := List.mem_append_left _ hz
        simp only [Tr.inord, List.mem_append, List.mem_cons] at hz
        rcases hz with hz | rfl | hz
        · exact hr.tra y hym x hxm z hzm hyx (q1 z hz)
        · exact hyx
        · exact hr.tra y hym x hxm z hzm hyx (q2 z hz)
      · exact p1 z hz
    · rw [List.mem_append] at hz ⊢
      rcases hz with hz | hz
      · exact .inl hz
      · right; simp [Tr.inord, hz]
/-- In a list without doubles an element stands at one place. -/
theorem split_one {x : α} : ∀ {l r l2 r2 : List α}, (l ++ x :: r).Nodup → l ++ x :: r = l2 ++ x :: r2 → l = l2 ∧ r = r2
  | [], _, [], _, _, h => by simp at h; exact ⟨rfl, h⟩
  | [], r, y :: l2, r2, hn, h => by
    simp at h
    obtain ⟨rfl, h2⟩ := h
    rw [h2] at hn
    simp at hn
  | y :: l, r, [], r2, hn, h => by
    simp at h
    obtain ⟨rfl, _⟩ := h
    simp at hn
  | y :: l, r, z :: l2, r2, hn, h => by
    simp only [List.cons_append, List.cons.injEq] at h
    obtain ⟨rfl, h2⟩ := h
    have hn2 : (l ++ x :: r).Nodup := by
      rw [List.cons_append, List.nodup_cons] at hn
      exact hn.2
    obtain ⟨q1, q2⟩ := split_one hn2 h2
    exact ⟨by rw [q1], q2⟩
/-- One tree at most. -/
theorem Tr.unique (a b : Tr α) (ha : a.heap ab) (hb : b.heap ab) (h : a.inord = b.inord) (hn : a.inord.Nodup) (hr : Ranked ab a.inord) : a = b := by
  induction a generalizing b with
  | nil =>
    cases b with
    | nil => rfl
    | node l x r => simp [Tr.inord] at h
  | node l x r ihl ihr =>
    cases b with
    | nil => simp [Tr.inord] at h
    | node l2 y r2 =>
      obtain ⟨p1, p2, p3, p4⟩ := ha
      obtain ⟨q1, q2, q3, q4⟩ := hb
      simp only [Tr.inord] at h hn hr
      have hxm : x ∈ l.inord ++ x :: r.inord := by simp
      have hym : y ∈ l.inord ++ x :: r.inord := by rw [h]; simp
      have hxy : x = y := by
        apply Classical.byContradiction
        intro hne
        have h1 : ab x y = true := by
          have := hym
          simp only [List.mem_append, List.mem_cons] at this
          rcases this with m | m | m
          · exact p1 y m
          · exact absurd m.symm hne
          · exact p2 y m
        have h2 : ab y x = true := by
          have := hxm
          rw [h] at this
          simp only [List.mem_append, List.mem_cons] at this
          rcases this with m | m | m
          · exact q1 x m
          · exact absurd m hne
          · exact q2 x m
        have := hr.asy x hxm y hym h1
        rw [h2] at this
        cases this
      subst hxy
      obtain ⟨e1, e2⟩ := split_one hn h
      have hnl : l.inord.Nodup := (List.nodup_append.1 hn).1
      have hnr : r.inord.Nodup := (List.nodup_cons.1 (List.nodup_append.1 hn).2.1).2
      rw [ihl l2 p3 q3 e1 hnl (hr.sub ab (fun z hz => by simp [hz])), ihr r2 p4 q4 e2 hnr (hr.sub ab (fun z hz => by simp [hz]))]
end
end Go.Proofs.Sha
namespace Go.Proofs.YtmfhfehemoeeeaaGreatDoor
open Go.RowKit Go.Proofs.Sha

theorem less_asy {a b : List UInt8} (h : Op.bytesLess a b = true) : Op.bytesLess b a = false := by
  rw [less_tri] at h
  cases hb : Op.bytesLess b a with
  | false => rfl
  | true => rw [hb] at h; simp at h
theorem less_tot {a b : List UInt8} (h : a ≠ b) : Op.bytesLess a b = true ∨ Op.bytesLess b a = true := by
  rw [less_tri a b]
  cases hb : Op.bytesLess b a with
  | true => exact .inr rfl
  | false =>
    left
    have : (b == a) = false := beq_eq_false_iff_ne.2 fun e => h e.symm
    rw [this]; rfl
theorem less_trans : ∀ a b c : List UInt8, Op.bytesLess a b = true → Op.bytesLess b c = true → Op.bytesLess a c = true
  | _, [], [], _, h => by simp [Op.bytesLess] at h
  | [], [], _ :: _, h, _ => by simp [Op.bytesLess] at h
  | _ :: _, [], _, h, _ => by simp [Op.bytesLess] at h
  | [], _ :: _, [], _, h => by simp [Op.bytesLess] at h
  | _ :: _, _ :: _, [], _, h => by simp [Op.bytesLess] at h
  | [], _ :: _, _ :: _, _, _ => by simp [Op.bytesLess]
  | a :: x, b :: y, c :: z, h1, h2 => by
    simp only [Op.bytesLess, Bool.or_eq_true, Bool.and_eq_true, decide_eq_true_eq, beq_iff_eq, UInt8.lt_iff_toNat_lt] at h1 h2 ⊢
    have ih := less_trans x y z
    rcases h1 with h1 | ⟨h1, h1'⟩ <;> rcases h2 with h2 | ⟨h2, h2'⟩
    · left; omega
    · subst h2; exact .inl h1
    · subst h1; exact .inl h2
    · subst h1; subst h2; exact .inr ⟨rfl, ih h1' h2'⟩
theorem rk_asy {x y a b : List UInt8} (h : rk x y a b = true) : rk y x b a = false := by
  unfold rk at h ⊢
  by_cases e : x = y
  · rw [if_pos e] at h; rw [if_pos e.symm]; exact less_asy h
  · rw [if_neg e] at h; rw [if_neg (fun q => e q.symm)]; exact less_asy h
theorem rk_tot {x y a b : List UInt8} (h : a ≠ b) : rk x y a b = true ∨ rk y x b a = true := by
  unfold rk
  by_cases e : x = y
  · rw [if_pos e, if_pos e.symm]; exact less_tot h
  · rw [if_neg e, if_neg (fun q => e q.symm)]; exact less_tot (fun q => e q.symm)
theorem rk_tra {x y z a b c : List UInt8} (h1 : rk x y a b = true) (h2 : rk y z b c = true) : rk x z a c = true := by
  unfold rk at h1 h2 ⊢
  by_cases e : x = y
  · subst e
    rw [if_pos rfl] at h1
    by_cases e2 : x = z
    · rw [if_pos e2] at h2 ⊢; exact less_trans _ _ _ h1 h2
    · rw [if_neg e2] at h2 ⊢; exact h2
  · rw [if_neg e] at h1
    by_cases e2 : y = z
    · subst e2
      rw [if_neg e]; exact h1
    · rw [if_neg e2] at h2
      have h3 := less_trans _ _ _ h2 h1
      have e3 : x ≠ z := fun q => by
        subst q
        rw [less_irr] at h3; cases h3
      rw [if_neg e3]; exact h3
/-- One pair is above another. -/
def abP (p q : PairT) : Bool := rk (sha p.1.data.toList) (sha q.1.data.toList) p.1.data.toList q.1.data.toList
theorem ranked_abP (ps : List PairT) (h : ∀ p ∈ ps, ∀ q ∈ ps, p ≠ q → p.1 ≠ q.1) : Ranked abP ps :=
  ⟨fun p hp q hq hne => rk_tot fun e => h p hp q hq hne (by
      have : p.1.data = q.1.data := Array.toList_inj.1 e
      exact ByteArray.ext this),
   fun _ _ _ _ => rk_asy, fun _ _ _ _ _ _ => rk_tra⟩
theorem beats_abP (p q : PairT) : beats (shaB p.1) (shaB q.1) p.1 q.1 = abP p q := beats_rk _ _ _ _
theorem topTo_above (ps : List PairT) (h : Ranked abP ps) (hd : ∀ i j, i < ps.length → j < ps.length → i ≠ j → ps.getD i noPair ≠ ps.getD j noPair) (k : Nat) (hk : k < ps.length) :
    ∀ j, j ≤ k → j ≠ topTo ps k → abP (ps.getD (topTo ps k) noPair) (ps.getD j noPair) = true := by
  have hm : ∀ i, i < ps.length → ps.getD i noPair ∈ ps := fun i hi => by
    rw [List.getD_eq_getElem?_getD, List.getElem?_eq_getElem hi]; exact List.getElem_mem hi
  induction k with
  | zero => intro j hj hne; exact absurd (Nat.le_zero.1 hj) hne
  | succ k ih =>
    intro j hj hne
    have hT := topTo_le ps k
    have ih := ih (by omega)
    by_cases hb : beats (shaB (keyAt ps (k + 1))) (shaB (keyAt ps (topTo ps k))) (keyAt ps (k + 1)) (keyAt ps (topTo ps k)) = true
    · have he : topTo ps (k + 1) = k + 1 := by rw [topTo, if_pos hb]
      rw [he] at hne ⊢
      have hb' : abP (ps.getD (k + 1) noPair) (ps.getD (topTo ps k) noPair) = true := (beats_abP _ _).symm.trans hb
      by_cases hjt : j = topTo ps k
      · rw [hjt]; exact hb'
      · exact h.tra _ (hm _ hk) _ (hm _ (by omega)) _ (hm _ (by omega)) hb' (ih j (by omega) hjt)
    · have he : topTo ps (k + 1) = topTo ps k := by rw [topTo, if_neg hb]
      rw [he] at hne ⊢
      by_cases hjk : j = k + 1
      · subst hjk
        rcases h.tot _ (hm (topTo ps k) (by omega)) _ (hm (k + 1) hk) (hd _ _ (by omega) hk (by omega)) with q | q
        · exact q
        · exact absurd ((beats_abP _ _).trans q) hb
      · exact ih j (by omega) hne
/-- The keys of a list of pairs are apart. -/
def Apart (ps : List PairT) : Prop := ps.Pairwise fun p q => p.1 ≠ q.1
theorem Apart.ne {ps : List PairT} (h : Apart ps) : ∀ p ∈ ps, ∀ q ∈ ps, p ≠ q → p.1 ≠ q.1 := by
  induction ps with
  | nil => intro p hp; cases hp
  | cons x l ih =>
    obtain ⟨h1, h2⟩ := List.pairwise_cons.1 h
    intro p hp q hq hne
    rcases List.mem_cons.1 hp with rfl | hp' <;> rcases List.mem_cons.1 hq with rfl | hq'
    · exact absurd rfl hne
    · exact h1 q hq'
    · exact fun e => h1 p hp' e.symm
    · exact ih h2 p hp' q hq' hne
theorem getD_lt (ps : List PairT) (i : Nat) (hi : i < ps.length) : ps.getD i noPair = ps[i] := by
  rw [List.getD_eq_getElem?_getD, List.getElem?_eq_getElem hi]; rfl
theorem Apart.at_ {ps : List PairT} (h : Apart ps) (i j : Nat) (hi : i < ps.length) (hj : j < ps.length) (hne : i ≠ j) : ps.getD i noPair ≠ ps.getD j noPair := by
  rw [getD_lt _ _ hi, getD_lt _ _ hj]
  have hp := List.pairwise_iff_getElem.1 h
  intro e
  rcases Nat.lt_or_gt_of_ne hne with q | q
  · exact hp i j hi hj q (by rw [e])
  · exact hp j i hj hi q (by rw [e])
/-- The tree as the model cuts it. -/
def cutTree (ps : List PairT) : Tr PairT :=
  if h : 0 < ps.length then
    .node (cutTree (ps.take (topTo ps (ps.length - 1)))) (ps.getD (topTo ps (ps.length - 1)) noPair) (cutTree (ps.drop (topTo ps (ps.length - 1) + 1)))
  else .nil
termination_by ps.length
decreasing_by
  · have := topTo_le ps (ps.length - 1); rw [List.length_take]; omega
  · rw [List.length_drop]; omega
theorem cut_at (ps : List PairT) (t : Nat) (ht : t < ps.length) : ps.take t ++ ps.getD t noPair :: ps.drop (t + 1) = ps := by
  rw [getD_lt _ _ ht, ← List.drop_eq_getElem_cons ht, List.take_append_drop]
theorem cutTree_inord (ps : List PairT) : (cutTree ps).inord = ps := by
  induction hn : ps.length using Nat.strongRecOn generalizing ps with
  | _ n ih =>
    rw [cutTree]
    by_cases h : 0 < ps.length
    · have ht := topTo_le ps (ps.length - 1)
      rw [dif_pos h, Tr.inord, ih _ (by rw [List.length_take]; omega) _ rfl, ih _ (by rw [List.length_drop]; omega) _ rfl]
      exact cut_at ps _ (by omega)
    · rw [dif_neg h]
      cases ps with
      | nil => rfl
      | cons x l => exact absurd (Nat.succ_pos _) h
theorem cutTree_heap (ps : List PairT) (ha : Apart ps) : (cutTree ps).heap abP := by
  induction hn : ps.length using Nat.strongRecOn generalizing ps with
  | _ n ih =>
    rw [cutTree]
    by_cases h : 0 < ps.length
    · have ht := topTo_le ps (ps.length - 1)
      have hab := topTo_above ps (ranked_abP ps ha.ne) ha.at_ (ps.length - 1) (by omega)
      rw [dif_pos h]
      refine ⟨fun y hy => ?_, fun y hy => ?_, ih _ (by rw [List.length_take]; omega) _ (List.Pairwise.sublist (List.take_sublist _ _) ha) rfl, ih _ (by rw [List.length_drop]; omega) _ (List.Pairwise.sublist (List.drop_sublist _ _) ha) rfl⟩
      · rw [cutTree_inord] at hy
        obtain ⟨i, hi, rfl⟩ := List.getElem_of_mem hy
        rw [List.length_take] at hi
        rw [List.getElem_take, ← getD_lt ps i (by omega)]
        exact hab i (by omega) (by omega)
      · rw [cutTree_inord] at hy
        obtain ⟨i, hi, rfl⟩ := List.getElem_of_mem hy
        rw [List.length_drop] at hi
        rw [List.getElem_drop, ← getD_lt ps _ (by omega)]
        exact hab _ (by omega) (by omega)
    · rw [dif_neg h]; trivial
/-- Singles, merged one after another, are the tree that the model cuts. -/
def mergedTo (ps : List PairT) : Nat → Tr PairT
  | 0 => .nil
  | k + 1 => Tr.merge abP (mergedTo ps k) (.node .nil (ps.getD k noPair) .nil)
theorem mergedTo_inord (ps : List PairT) (k : Nat) (hk : k ≤ ps.length) : (mergedTo ps k).inord = ps.take k := by
  induction k with
  | zero => rfl
  | succ k ih =>
    rw [mergedTo, Tr.merge_inord, ih (by omega), List.take_succ_eq_append_getElem (by omega), getD_lt _ _ (by omega)]
    rfl
theorem mergedTo_heap (ps : List PairT) (ha : Apart ps) (k : Nat) (hk : k ≤ ps.length) : (mergedTo ps k).heap abP := by
  induction k with
  | zero => trivial
  | succ k ih =>
    rw [mergedTo]
    have hr := ranked_abP ps ha.ne
    have hi : (Tr.node .nil (ps.getD k noPair) .nil : Tr PairT).inord = [ps.getD k noPair] := rfl
    refine Tr.merge_heap abP _ _ (ih (by omega)) ⟨fun _ h => (by cases h), fun _ h => (by cases h), trivial, trivial⟩ (hr.sub abP fun x hx => ?_) (fun x hx y hy => ?_)
    · rw [hi, mergedTo_inord ps k (by omega)] at hx
      rcases List.mem_append.1 hx with q | q
      · exact List.mem_of_mem_take q
      · rw [List.mem_singleton.1 q, getD_lt _ _ (by omega)]; exact List.getElem_mem _
    · rw [mergedTo_inord ps k (by omega)] at hx
      rw [hi] at hy
      obtain ⟨i, hi', rfl⟩ := List.getElem_of_mem hx
      rw [List.length_take] at hi'
      rw [List.getElem_take, List.mem_singleton.1 hy, ← getD_lt ps i (by omega)]
      exact ha.at_ i k (by omega) (by omega) (by omega)
theorem merged_cut (ps : List PairT) (ha : Apart ps) : mergedTo ps ps.length = cutTree ps := by
  have hi : (mergedTo ps ps.length).inord = ps := by rw [mergedTo_inord ps _ (Nat.le_refl _), List.take_length]
  refine Tr.unique abP _ _ (mergedTo_heap ps ha _ (Nat.le_refl _)) (cutTree_heap ps ha) (by rw [hi, cutTree_inord]) ?_ ?_
  · rw [hi]; exact ha.imp fun h e => h (by rw [e])
  · rw [hi]; exact ranked_abP ps ha.ne
theorem mapTo_good (ps : List PairT) : ∀ n, mapTo ps n = true → ∀ k, k < n → goodAt ps k = true
  | 0, _, k, hk => absurd hk (Nat.not_lt_zero _)
  | n + 1, h, k, hk => by
    rw [mapTo, Bool.and_eq_true] at h
    by_cases e : k = n
    · subst e; exact h.2
    · exact mapTo_good ps n h.1 k (by omega)
theorem mapTo_less (ps : List PairT) (n : Nat) (h : mapTo ps n = true) (i j : Nat) (hij : i < j) (hj : j < n) : Op.bytesLess (keyAt ps i).data.toList (keyAt ps j).data.toList = true := by
  induction j with
  | zero => omega
  | succ j ih =>
    have hg := mapTo_good ps n h (j + 1) hj
    unfold goodAt at hg
    rw [Bool.and_eq_true, Bool.and_eq_true, ByteArray.toList_eq, ByteArray.toList_eq] at hg
    have hl : Op.bytesLess (keyAt ps j).data.toList (keyAt ps (j + 1)).data.toList = true := hg.2.2
    by_cases e : i = j
    · subst e; exact hl
    · exact less_trans _ _ _ (ih (by omega) (by omega)) hl
theorem isMapT_apart (ps : List PairT) (h : isMapT ps = true) : Apart ps := by
  unfold isMapT at h
  rw [Bool.and_eq_true] at h
  refine List.pairwise_iff_getElem.2 fun i j hi hj hij e => ?_
  have hl := mapTo_less ps ps.length h.2 i j hij hj
  have hk : keyAt ps i = keyAt ps j := by
    unfold keyAt
    rw [getD_lt _ _ hi, getD_lt _ _ hj, e]
  rw [hk, less_irr] at hl
  cases hl
end Go.Proofs.YtmfhfehemoeeeaaGreatDoor
