import Derived.Deep.AppendLies
import Derived.WalkKit
import Derived.Test.YtofglikppppjoacDoorProg
import Derived.Test.YtofglikppppjoacDoorYa
import Derived.WalkSpells
import Derived.WalkLawsBesides
import Derived.StillTactics
import Derived.Laws.Pointers
import Derived.Deep.RegionHeld3
import Derived.Test.YtofglikppppjoacDoorYc
import Derived.Test.YtofglikppppjoacDoorYb
namespace Go.Proofs.Sha
open Go Go.RowKit

section
variable {P : Program} (w : World)

theorem run_append_keep (t ty : TypeId) (base : Nat) (e : TypeId) (i : TypeInfo) (z : Value) (size bytes : Nat) (ht : P.underlying t = some (.slice e)) (hi : P.info? e = some i) (hz : i.zero = some z)
    (hsize : i.size = size) (hby : i.bytes = bytes) (hzs : z.cells.size = size) (hsz : 0 < size)
    (g n cap : Nat) (xs : List Value) (hown : w.ownsRow base e size (.slice (some ⟨g, 0, none⟩) n cap) n xs)
    (ad : Addr) (m c : Nat) (news : List Value) (hl : news.length = m * size) (hnews : ∀ j u, news[j]? = some u → w.cell? (ad.add j) = some u) (h1 : ∀ u ∈ news, u.oneCell' = true)
    (hm : 0 < m) (h63 : n + m ≤ maxLen) (hbytes : (n + m) * bytes ≤ 140737488355328) (hbase : base ≤ w.heap.size) (H : Nat) (hH : w.heap.size = H) :
    ∃ g' cap' w', (Builtin.append_ #[t, t] ty #[.slice (some ⟨g, 0, none⟩) n cap, .slice (some ad) m c]).run P w = .ok (.slice (some ⟨g', 0, none⟩) (n + m) cap') w' ∧
      w'.ownsRow base e size (.slice (some ⟨g', 0, none⟩) (n + m) cap') (n + m) (xs ++ news) ∧ w.grownBy w' (some g) ∧ (g' = g ∨ g' = H) ∧ g' < w'.heap.size ∧
      (∀ j, j < n * size → w'.cell? ⟨g, j, none⟩ = w.cell? ⟨g, j, none⟩) := by
  obtain ⟨g', cap', w', hr, h2, h3, h4, h5⟩ := run_append_lies (P := P) w t ty base e i z size bytes ht hi hz hsize hby hzs hsz _ n xs hown ad m c news hl hnews h1 hm h63 hbytes hbase H hH
  refine ⟨g', cap', w', hr, h2, h3, ?_, h5, ?_⟩
  · rcases h4 with h4 | h4
    · left
      simpa [Value.ownBlock] using h4.symm
    · exact .inr h4
  · intro j hj
    rcases hown.2 with ⟨hv, _⟩ | ⟨g0, cap0, cur, hv, hbg, hg, hnc, hcm, hcs, htake⟩
    · cases hv
    · cases hv
      by_cases hroom : n + m ≤ cap
      · subst hsize
        have hfit : n * i.size + news.length ≤ cur.size := by rw [hl, hcs, ← Nat.add_mul]; exact Nat.mul_le_mul_right _ hroom
        have hr2 := run_append_room (P := P) w t ty e i ht hi g n cap cur hg ad m c news hl hnews h1 hroom hfit
        rw [hr2] at hr
        injection hr with _ hw
        subst hw
        rw [cell_of_row _ g j _ e (0, 0) (setRow_heap w g cur _ e (0, 0) hg), cell_of_row w g j cur e (0, 0) hg]
        have hjl : j < (List.take (n * i.size) cur.toList).length := by simp; omega
        simp only [List.append_assoc, List.getElem?_toArray]
        rw [List.getElem?_append_left hjl, List.getElem?_take, if_pos hj]
        simp
      · subst hsize
        subst hby
        have holds : ∀ j u, xs[j]? = some u → w.cell? ((⟨g, 0, none⟩ : Addr).add j) = some u := hown.cells (g := g) rfl
        have hr2 := run_append_grow (P := P) w t ty e i z ht hi hz ⟨g, 0, none⟩ n cap xs hown.1 holds ad m c news hl hnews (by omega) (by simp only [maxLen] at h63; omega) (growslice_fits (by omega) hbytes)
        rw [hr2] at hr
        injection hr with _ hw
        subst hw
        have hlt : g < w.heap.size := (Array.getElem?_eq_some_iff.1 hg).1
        exact World.cell?_of_block (w := w) (heap_alloc_old w.drew _ hlt)

theorem wp_append_keep {o : Oper} {a : Act} {K : Act → World → Prop} {Q : Exit → Act → World → Prop} (s x : Operand) (t : TypeId)
    (ho : o.op = .call { callee := .builtin .append, args := #[s, x], argTypes := #[t, t] })
    (base : Nat) (e : TypeId) (i : TypeInfo) (z : Value) (size bytes : Nat) (ht : P.underlying t = some (.slice e)) (hi : P.info? e = some i) (hz : i.zero = some z)
    (hsize : i.size = size) (hby : i.bytes = bytes) (hzs : z.cells.size = size) (hsz : 0 < size)
    (g n cap : Nat) (xs : List Value) (hs : a.eval s = .slice (some ⟨g, 0, none⟩) n cap) (hown : w.ownsRow base e size (.slice (some ⟨g, 0, none⟩) n cap) n xs)
    (ad : Addr) (m c : Nat) (news : List Value) (hx : a.eval x = .slice (some ad) m c) (hl : news.length = m * size) (hnews : ∀ j u, news[j]? = some u → w.cell? (ad.add j) = some u) (h1 : ∀ u ∈ news, u.oneCell' = true)
    (hm : 0 < m) (h63 : n + m ≤ maxLen) (hbytes : (n + m) * bytes ≤ 140737488355328) (hbase : base ≤ w.heap.size) (H : Nat) (hH : w.heap.size = H)
    (h : ∀ g' cap' w', w'.ownsRow base e size (.slice (some ⟨g', 0, none⟩) (n + m) cap') (n + m) (xs ++ news) → w.grownBy w' (some g) → (g' = g ∨ g' = H) → g' < w'.heap.size →
      (∀ j, j < n * size → w'.cell? ⟨g, j, none⟩ = w.cell? ⟨g, j, none⟩) → K (a.put o.dst (.slice (some ⟨g', 0, none⟩) (n + m) cap')) w') : o.wp P a w K Q := by
  obtain ⟨g', cap', w', hr, h2, h3, h4, h5, h6⟩ := run_append_keep (P := P) w t o.type base e i z size bytes ht hi hz hsize hby hzs hsz g n cap xs hown ad m c news hl hnews h1 hm h63 hbytes hbase H hH
  unfold Oper.wp execOp
  simp only [ho, resolve, invoke, builtin, Sem.run_bind, Sem.run_pure, Result.andThen_ok, List.map_toArray, List.map_cons, List.map_nil, hs, hx, hr]
  exact h g' cap' w' h2 h3 h4 h5 h6

theorem step_append_keep {ops : Array Oper} {o : Oper} {a : Act} {K : Act → World → Prop} {Q : Exit → Act → World → Prop} {E : Prop} (hgd : o.guard = none) (s x : Operand) (t : TypeId)
    (ho : o.op = .call { callee := .builtin .append, args := #[s, x], argTypes := #[t, t] })
    (base : Nat) (e : TypeId) (i : TypeInfo) (z : Value) (size bytes : Nat) (ht : P.underlying t = some (.slice e)) (hi : P.info? e = some i) (hz : i.zero = some z)
    (hsize : i.size = size) (hby : i.bytes = bytes) (hzs : z.cells.size = size) (hsz : 0 < size)
    (g n cap : Nat) (xs : List Value) (hs : a.eval s = .slice (some ⟨g, 0, none⟩) n cap) (hown : w.ownsRow base e size (.slice (some ⟨g, 0, none⟩) n cap) n xs)
    (ad : Addr) (m c : Nat) (news : List Value) (hx : a.eval x = .slice (some ad) m c) (hl : news.length = m * size) (hnews : ∀ j u, news[j]? = some u → w.cell? (ad.add j) = some u) (h1 : ∀ u ∈ news, u.oneCell' = true)
    (hm : 0 < m) (h63 : n + m ≤ maxLen) (hbytes : (n + m) * bytes ≤ 140737488355328) (hbase : base ≤ w.heap.size) (H : Nat) (hH : w.heap.size = H)
    (h : ∀ g' cap' w', w'.ownsRow base e size (.slice (some ⟨g', 0, none⟩) (n + m) cap') (n + m) (xs ++ news) → w.grownBy w' (some g) → (g' = g ∨ g' = H) → g' < w'.heap.size →
      (∀ j, j < n * size → w'.cell? ⟨g, j, none⟩ = w.cell? ⟨g, j, none⟩) → K (a.put o.dst (.slice (some ⟨g', 0, none⟩) (n + m) cap')) w') :
    if Region.wanted o (yielded ops a.tmps) = true then Oper.wp P o a w K Q else E := by
  have hw : Region.wanted o (yielded ops a.tmps) = true := by simp [Region.wanted, hgd]
  rw [if_pos hw]
  exact wp_append_keep w s x t ho base e i z size bytes ht hi hz hsize hby hzs hsz g n cap xs hs hown ad m c news hx hl hnews h1 hm h63 hbytes hbase H hH h
end
end Go.Proofs.Sha
namespace Go.Proofs.YtofglikppppjoacDoor
open Go.RowKit Go.Proofs.Sha

theorem info24 : (Tryd.prog.info? 113).map (fun i => (i.zero, i.size, i.bytes)) = some (some (.int .u32 0), 1, 4) := by kernel_rfl

set_option maxHeartbeats 400000 in
theorem turn_any (x : UInt32) (n : Int) (h1 : 1 ≤ n) (h2 : n ≤ 31) (w : World) :
    Calls Tryd.prog 100 #[.int .u32 x.toNat, .int .i64 n] w fun e w' => e = .returned (.int .u32 (turn x n.toNat).toNat) ∧ w = w' := by
  obtain ⟨m, rfl⟩ := Int.eq_ofNat_of_zero_le (show 0 ≤ n by omega)
  rw [Int.toNat_natCast]
  go_enter Tryd.func100, Tryd.ntmps100
  go_wp2
  go_ret
  exact ⟨ret_int (turn_spec x m), rfl⟩

set_option maxRecDepth 100000 in
set_option maxHeartbeats 400000 in
theorem schedule_any (m : List UInt8) (mb mc fr : Nat) (w : World) (hl : m.length ≤ 2000000) (hf : fr + 64 ≤ m.length)
    (hc : ∀ j, j < m.length → w.cell? ⟨mb, j, none⟩ = some (.int .u8 ((m.getD j 0).toNat : Int))) :
    Calls Tryd.prog 99 #[.slice (some ⟨mb, 0, none⟩) m.length mc, .int .i64 fr] w fun e w' => ∃ g cap, e = .returned (.slice (some ⟨g, 0, none⟩) 64 cap) ∧ w'.ownsRow w.heap.size 113 1 (.slice (some ⟨g, 0, none⟩) 64 cap) 64 ((sched (m.drop fr) 64).map U) ∧ Below w.heap.size w w' := by
  obtain ⟨i0, hi0, hz0, hz1, hz2⟩ := info_parts info24
  have hmb : mb < w.heap.size := World.block_lt_of_cell? w _ (hc 0 (by omega))
  go_enter Tryd.func99, Tryd.ntmps99
  go_wp2_with fail
  go_loopw [5, 6] (fun v i wr => ∃ k g cap : Nat, k ≤ 16 ∧ i = .int .i64 k ∧ v = .slice (some ⟨g, 0, none⟩) k cap ∧ wr.ownsRow w.heap.size 113 1 (.slice (some ⟨g, 0, none⟩) k cap) k ((sched (m.drop fr) k).map U) ∧ Below w.heap.size w wr) (fun _ i _ => 16 - (intOf i).toNat)
  case atStart => exact ⟨0, w.heap.size, 0, Nat.zero_le _, rfl, rfl, World.ownsRow_made w #[] 0 (Nat.le_refl _) (by decide) rfl, (Below.refl _ _).alloc (Nat.le_refl _) _⟩
  case round =>
    obtain ⟨k, g, cap, hk, rfl, rfl, hown, hbel⟩ := hrel
    have hsz := hbel.size
    by_cases hlt : k < 16
    · obtain ⟨p, hp⟩ : ∃ p, p = fr + 4 * k := ⟨_, rfl⟩
      have hpl : p + 3 < m.length := by omega
      have c0 : wr.cell? ⟨mb, p, none⟩ = some (.int .u8 ((m.getD p 0).toNat : Int)) := (hbel.cell hmb).trans (hc _ (by omega))
      have c1 : wr.cell? ⟨mb, p + 1, none⟩ = some (.int .u8 ((m.getD (p + 1) 0).toNat : Int)) := (hbel.cell hmb).trans (hc _ (by omega))
      have c2 : wr.cell? ⟨mb, p + 2, none⟩ = some (.int .u8 ((m.getD (p + 2) 0).toNat : Int)) := (hbel.cell hmb).trans (hc _ (by omega))
      have c3 : wr.cell? ⟨mb, p + 3, none⟩ = some (.int .u8 ((m.getD (p + 3) 0).toNat : Int)) := (hbel.cell hmb).trans (hc _ (by omega))
      generalize hb0 : m.getD p 0 = b0 at *
      generalize hb1 : m.getD (p + 1) 0 = b1 at *
      generalize hb2 : m.getD (p + 2) 0 = b2 at *
      generalize hb3 : m.getD (p + 3) 0 = b3 at *
      have HB : Hid (m.getD p 0 = b0 ∧ m.getD (p + 1) 0 = b1 ∧ m.getD (p + 2) 0 = b2 ∧ m.getD (p + 3) 0 = b3) := ⟨hb0, hb1, hb2, hb3⟩
      clear hb0 hb1 hb2 hb3
      have hge : w.heap.size ≤ g := (hown.lt g rfl).1
      have hne : some mb ≠ some g := by simp; omega
      go_wp2_with fail
      rw [show (fr : Int) + 4 * (k : Int) = (p : Int) from by omega]
      have q0 : (0 : Int) ≤ (p : Int) := by omega
      have q1 : (p : Int) < (m.length : Int) := by omega
      have q2 : (p : Int) + 1 < (m.length : Int) := by omega
      have q3 : (p : Int) + 2 < (m.length : Int) := by omega
      have q4 : (p : Int) + 3 < (m.length : Int) := by omega
      have w1 : IntKind.i64.wrap ((p : Int) + 1) = (p : Int) + 1 := wrap_i64_in _ (by omega) (by omega)
      have r1 : (0 : Int) ≤ (p : Int) + 1 := by omega
      have t1 : ((p : Int) + 1).toNat = p + 1 := by omega
      have w2 : IntKind.i64.wrap ((p : Int) + 2) = (p : Int) + 2 := wrap_i64_in _ (by omega) (by omega)
      have r2 : (0 : Int) ≤ (p : Int) + 2 := by omega
      have t2 : ((p : Int) + 2).toNat = p + 2 := by omega
      have w3 : IntKind.i64.wrap ((p : Int) + 3) = (p : Int) + 3 := wrap_i64_in _ (by omega) (by omega)
      have r3 : (0 : Int) ≤ (p : Int) + 3 := by omega
      have t3 : ((p : Int) + 3).toNat = p + 3 := by omega
      have HP : Hid (p = fr + 4 * k) := hp
      clear hp
      go_region_held3 (fun w' => w'.cell? ⟨mb, p, none⟩ = some (.int .u8 (b0.toNat : Int)) ∧ w'.cell? ⟨mb, p + 1, none⟩ = some (.int .u8 (b1.toNat : Int)) ∧ w'.cell? ⟨mb, p + 2, none⟩ = some (.int .u8 (b2.toNat : Int)) ∧ w'.cell? ⟨mb, p + 3, none⟩ = some (.int .u8 (b3.toNat : Int)))
        (first | go_keep | (go_split_ands; refine ⟨?_, ?_, ?_, ?_⟩ <;> (rw [hgrow.cell_far _ (by simp; omega) hne]; assumption)))
        ((refine step_append_keep _ (by rfl) _ _ _ (by rfl) w.heap.size 113 i0 _ 1 4 Tryd.underlying114 hi0 hz0 hz1 hz2 rfl (by omega) g k cap _ (by rfl) ((hown.alloc _).drew) ⟨wr.heap.size, 0, none⟩ 1 1 [_] (by rfl) (by rfl) (World.news_of_block (heap_alloc_new wr _)) (by simp [Value.oneCell']) (by omega) (by unfold maxLen; omega) (by omega) (by simp; omega) (wr.heap.size + 1) (by simp) ?_; intro gg cap' wx hown1 hgrow hat hlt1 hold))
      go_wp2
      go_roundw
      case rel =>
        rw [← sched_lo m fr k p b0 b1 b2 b3 hlt HP.out HB.out] at hown1
        exact ⟨k + 1, gg, cap', by omega, by go_num, rfl, hown1, (hbel.alloc hsz _).drew.grown hgrow (by simp; omega) (fun q hq => by cases hq; exact hge)⟩
      case measure => simp [intOf]; omega
    · obtain rfl : k = 16 := by omega
      go_wp2_with fail
      go_loopw [5, 8] (fun v i wr => ∃ k g cap : Nat, 16 ≤ k ∧ k ≤ 64 ∧ i = .int .i64 k ∧ v = .slice (some ⟨g, 0, none⟩) k cap ∧ wr.ownsRow w.heap.size 113 1 (.slice (some ⟨g, 0, none⟩) k cap) k ((sched (m.drop fr) k).map U) ∧ Below w.heap.size w wr) (fun _ i _ => 64 - (intOf i).toNat)
      case atStart => exact ⟨16, g, cap, by omega, by omega, rfl, rfl, hown, hbel⟩
      case round =>
        clear hown hbel hsz
        obtain ⟨k, g, cap, h16, hk, rfl, rfl, hown, hbel⟩ := hrel
        have hsz := hbel.size
        have hge : w.heap.size ≤ g := (hown.lt g rfl).1
        by_cases hlt : k < 64
        · have c15 := own_u hown (sched_length _ _) (k - 15) (by omega)
          have c2 := own_u hown (sched_length _ _) (k - 2) (by omega)
          have c16 := own_u hown (sched_length _ _) (k - 16) (by omega)
          have c7 := own_u hown (sched_length _ _) (k - 7) (by omega)
          generalize h15 : (sched (m.drop fr) k).getD (k - 15) 0 = x15 at *
          generalize h2 : (sched (m.drop fr) k).getD (k - 2) 0 = x2 at *
          generalize h16' : (sched (m.drop fr) k).getD (k - 16) 0 = x16 at *
          generalize h7 : (sched (m.drop fr) k).getD (k - 7) 0 = x7 at *
          have HB : Hid ((sched (m.drop fr) k).getD (k - 16) 0 = x16 ∧ (sched (m.drop fr) k).getD (k - 15) 0 = x15 ∧ (sched (m.drop fr) k).getD (k - 7) 0 = x7 ∧ (sched (m.drop fr) k).getD (k - 2) 0 = x2) := ⟨h16', h15, h7, h2⟩
          clear h15 h2 h16' h7
          go_wp2_with (go_at_call 100; refine (turn_any _ _ (by omega) (by omega) _).mono ?_; rintro e w' ⟨rfl, rfl⟩)
          rw [far_form, near_form]
          generalize hs0 : sumFar x15 = sf at *
          generalize hs1 : sumNear x2 = sn at *
          have HS : Hid (sumFar x15 = sf ∧ sumNear x2 = sn) := ⟨hs0, hs1⟩
          clear hs0 hs1
          have q1 : (k : Int) - 16 < (k : Int) := by omega
          have q2 : (k : Int) - 7 < (k : Int) := by omega
          have w1 : IntKind.i64.wrap ((k : Int) - 16) = (k : Int) - 16 := wrap_i64_in _ (by omega) (by omega)
          have r1 : (16 : Int) ≤ (k : Int) := by omega
          have t1 : ((k : Int) - 16).toNat = k - 16 := by omega
          have w2 : IntKind.i64.wrap ((k : Int) - 7) = (k : Int) - 7 := wrap_i64_in _ (by omega) (by omega)
          have r2 : (7 : Int) ≤ (k : Int) := by omega
          have t2 : ((k : Int) - 7).toNat = k - 7 := by omega
          go_region_held3 (fun w' => w'.cell? ⟨g, k - 16, none⟩ = some (.int .u32 (x16.toNat : Int)) ∧ w'.cell? ⟨g, k - 7, none⟩ = some (.int .u32 (x7.toNat : Int)))
            (first | go_keep | (go_split_ands; refine ⟨?_, ?_⟩ <;> (rw [hold _ (by omega)]; assumption)))
            ((refine step_append_keep _ (by rfl) _ _ _ (by rfl) w.heap.size 113 i0 _ 1 4 Tryd.underlying114 hi0 hz0 hz1 hz2 rfl (by omega) g k cap _ (by rfl) ((hown.alloc _).drew) ⟨wr.heap.size, 0, none⟩ 1 1 [_] (by rfl) (by rfl) (World.news_of_block (heap_alloc_new wr _)) (by simp [Value.oneCell']) (by omega) (by unfold maxLen; omega) (by omega) (by simp; omega) (wr.heap.size + 1) (by simp) ?_; intro gg cap' wx hown1 hgrow hat hlt1 hold))
          go_wp2
          go_roundw
          case rel =>
            rw [← HS.out.1, ← HS.out.2, ← sched_hi (m.drop fr) k x16 x15 x7 x2 h16 HB.out] at hown1
            (repeat apply Exists.intro)
            exact ⟨⟨k + 1, gg, cap', by omega, by omega, by go_num, rfl, hown1, (hbel.alloc hsz _).drew.grown hgrow (by simp; omega) (fun q hq => by cases hq; exact hge)⟩, rfl⟩
          case measure => simp [intOf]; omega
        · go_wp2
          go_ret
          obtain rfl : k = 64 := by omega
          exact ⟨g, cap, rfl, hown, hbel⟩
end Go.Proofs.YtofglikppppjoacDoor
namespace Go.Proofs.YtofglikppppjoacDoor
open Go.RowKit Go.Proofs.Sha

set_option maxRecDepth 100000 in
set_option maxHeartbeats 400000 in
theorem tab_any (w : World) : Calls Tryd.prog 77 #[] w fun e w' => e = .returned (.slice (some ⟨w.heap.size, 0, none⟩) 64 64) ∧ w' = w.alloc (.cells ((kTab.map U).toArray) 113) := by
  go_enter Tryd.func77, Tryd.ntmps77
  go_wp2
  go_ret
  exact ⟨rfl, rfl⟩

set_option maxRecDepth 100000 in
set_option maxHeartbeats 800000 in
theorem block_any (h : List UInt32) (hb hc kb kc : Nat) (m : List UInt8) (mb mc fr : Nat) (w : World) (hl : m.length ≤ 2000000) (hf : fr + 64 ≤ m.length)
    (hcm : ∀ j, j < m.length → w.cell? ⟨mb, j, none⟩ = some (.int .u8 ((m.getD j 0).toNat : Int)))
    (hch : ∀ j, j < 8 → w.cell? ⟨hb, j, none⟩ = some (.int .u32 ((h.getD j 0).toNat : Int)))
    (hck : ∀ j, j < 64 → w.cell? ⟨kb, j, none⟩ = some (.int .u32 ((kTab.getD j 0).toNat : Int))) :
    Calls Tryd.prog 79 #[.slice (some ⟨hb, 0, none⟩) 8 hc, .slice (some ⟨kb, 0, none⟩) 64 kc, .slice (some ⟨mb, 0, none⟩) m.length mc, .int .i64 fr] w
      fun e w' => ∃ g, e = .returned (.slice (some ⟨g, 0, none⟩) 8 8) ∧ Row w' w.heap.size g 8 8 ((comp h (m.drop fr)).map U) ∧ Below w.heap.size w w' := by
  have lh : hb < w.heap.size := World.block_lt_of_cell? w _ (hch 0 (by omega))
  have lk : kb < w.heap.size := World.block_lt_of_cell? w _ (hck 0 (by omega))
  go_enter Tryd.func79, Tryd.ntmps79
  go_wp2_with fail
  refine (schedule_any m mb mc fr w hl hf hcm).mono ?_
  rintro e w1 ⟨g, cap, rfl, hown, hbel⟩
  obtain ⟨x0, e0⟩ : ∃ x, h.getD 0 0 = x := ⟨_, rfl⟩
  obtain ⟨x1, e1⟩ : ∃ x, h.getD 1 0 = x := ⟨_, rfl⟩
  obtain ⟨x2, e2⟩ : ∃ x, h.getD 2 0 = x := ⟨_, rfl⟩
  obtain ⟨x3, e3⟩ : ∃ x, h.getD 3 0 = x := ⟨_, rfl⟩
  obtain ⟨x4, e4⟩ : ∃ x, h.getD 4 0 = x := ⟨_, rfl⟩
  obtain ⟨x5, e5⟩ : ∃ x, h.getD 5 0 = x := ⟨_, rfl⟩
  obtain ⟨x6, e6⟩ : ∃ x, h.getD 6 0 = x := ⟨_, rfl⟩
  obtain ⟨x7, e7⟩ : ∃ x, h.getD 7 0 = x := ⟨_, rfl⟩
  have c0 : w1.cell? ⟨hb, 0, none⟩ = some (.int .u32 (x0.toNat : Int)) := by rw [← e0]; exact (hbel.cell lh).trans (hch 0 (by omega))
  have c1 : w1.cell? ⟨hb, 1, none⟩ = some (.int .u32 (x1.toNat : Int)) := by rw [← e1]; exact (hbel.cell lh).trans (hch 1 (by omega))
  have c2 : w1.cell? ⟨hb, 2, none⟩ = some (.int .u32 (x2.toNat : Int)) := by rw [← e2]; exact (hbel.cell lh).trans (hch 2 (by omega))
  have c3 : w1.cell? ⟨hb, 3, none⟩ = some (.int .u32 (x3.toNat : Int)) := by rw [← e3]; exact (hbel.cell lh).trans (hch 3 (by omega))
  have c4 : w1.cell? ⟨hb, 4, none⟩ = some (.int .u32 (x4.toNat : Int)) := by rw [← e4]; exact (hbel.cell lh).trans (hch 4 (by omega))
  have c5 : w1.cell? ⟨hb, 5, none⟩ = some (.int .u32 (x5.toNat : Int)) := by rw [← e5]; exact (hbel.cell lh).trans (hch 5 (by omega))
  have c6 : w1.cell? ⟨hb, 6, none⟩ = some (.int .u32 (x6.toNat : Int)) := by rw [← e6]; exact (hbel.cell lh).trans (hch 6 (by omega))
  have c7 : w1.cell? ⟨hb, 7, none⟩ = some (.int .u32 (x7.toNat : Int)) := by rw [← e7]; exact (hbel.cell lh).trans (hch 7 (by omega))
  have HX : Hid (ofL h = ⟨x0, x1, x2, x3, x4, x5, x6, x7⟩) := by unfold ofL; rw [e0, e1, e2, e3, e4, e5, e6, e7]; exact rfl
  have HE : Hid (h.getD 0 0 = x0 ∧ h.getD 1 0 = x1 ∧ h.getD 2 0 = x2 ∧ h.getD 3 0 = x3 ∧ h.getD 4 0 = x4 ∧ h.getD 5 0 = x5 ∧ h.getD 6 0 = x6 ∧ h.getD 7 0 = x7) := ⟨e0, e1, e2, e3, e4, e5, e6, e7⟩
  clear e0 e1 e2 e3 e4 e5 e6 e7
  have hWl := sched_length (m.drop fr) 64
  have hlg := hown.lt g rfl
  obtain ⟨W, hW⟩ : ∃ W, sched (m.drop fr) 64 = W := ⟨_, rfl⟩
  rw [hW] at hown hWl
  have HW : Hid (∀ N, N = 64 → sched (m.drop fr) N = W) := fun N hN => by rw [hN]; exact hW
  clear hW
  have hcw : ∀ j, j < 64 → w1.cell? ⟨g, j, none⟩ = some (.int .u32 ((W.getD j 0).toNat : Int)) := own_u hown hWl
  have hck1 : ∀ j, j < 64 → w1.cell? ⟨kb, j, none⟩ = some (.int .u32 ((kTab.getD j 0).toNat : Int)) := fun j hj => (hbel.cell lk).trans (hck j hj)
  clear hck hch hcm hown
  have lh1 : hb < w1.heap.size := Nat.lt_of_lt_of_le lh hbel.size
  have lk1 : kb < w1.heap.size := Nat.lt_of_lt_of_le lk hbel.size
  have HK : Hid (∀ j, j < 64 → w1.cell? ⟨kb, j, none⟩ = some (.int .u32 ((kTab.getD j 0).toNat : Int))) := hck1
  have HC : Hid (∀ j, j < 64 → w1.cell? ⟨g, j, none⟩ = some (.int .u32 ((W.getD j 0).toNat : Int))) := hcw
  clear hck1 hcw
  go_wp2_with fail
  go_loopw [10, 11, 12, 13, 14, 15, 16, 17, 18] (fun ta tb tc td te tf tg tz i wr => ∃ (k : Nat) (va vb vc vd ve vf vg vz : UInt32), k ≤ 64 ∧ i = .int .i64 k ∧ Hid (rnds W (⟨x0, x1, x2, x3, x4, x5, x6, x7⟩ : St) k = ⟨va, vb, vc, vd, ve, vf, vg, vz⟩) ∧ ta = .int .u32 (va.toNat : Int) ∧ tb = .int .u32 (vb.toNat : Int) ∧ tc = .int .u32 (vc.toNat : Int) ∧ td = .int .u32 (vd.toNat : Int) ∧ te = .int .u32 (ve.toNat : Int) ∧ tf = .int .u32 (vf.toNat : Int) ∧ tg = .int .u32 (vg.toNat : Int) ∧ tz = .int .u32 (vz.toNat : Int) ∧ Below w1.heap.size w1 wr) (fun _ _ _ _ _ _ _ _ i _ => 64 - (intOf i).toNat)
  case atStart => exact ⟨0, x0, x1, x2, x3, x4, x5, x6, x7, Nat.zero_le _, rfl, rfl, rfl, rfl, rfl, rfl, rfl, rfl, rfl, rfl, Below.refl _ _⟩
  case round =>
    obtain ⟨k, va, vb, vc, vd, ve, vf, vg, vz, hk, rfl, HST, rfl, rfl, rfl, rfl, rfl, rfl, rfl, rfl, hb2⟩ := hrel
    by_cases hlt : k < 64
    · obtain ⟨kk, hkk⟩ : ∃ x, kTab.getD k 0 = x := ⟨_, rfl⟩
      obtain ⟨ww, hww⟩ : ∃ x, W.getD k 0 = x := ⟨_, rfl⟩
      have ck : wr.cell? ⟨kb, k, none⟩ = some (.int .u32 (kk.toNat : Int)) := by rw [← hkk]; exact (hb2.cell lk1).trans (HK.out k hlt)
      have cw : wr.cell? ⟨g, k, none⟩ = some (.int .u32 (ww.toNat : Int)) := by rw [← hww]; exact (hb2.cell hlg.2).trans (HC.out k hlt)
      have HKW : Hid (kTab.getD k 0 = kk ∧ W.getD k 0 = ww) := ⟨hkk, hww⟩
      clear hkk hww
      go_wp2_with (go_at_call 100; refine (turn_any _ _ (by omega) (by omega) _).mono ?_; rintro e w' ⟨rfl, rfl⟩)
      have q0 : (0 : Int) ≤ (k : Int) := by omega
      have q1 : (k : Int) < 64 := by omega
      go_region_held3 (fun w' => w'.cell? ⟨kb, k, none⟩ = some (.int .u32 (kk.toNat : Int)) ∧ w'.cell? ⟨g, k, none⟩ = some (.int .u32 (ww.toNat : Int))) (go_keep) (fail)
      go_wp2_with (go_at_call 100; refine (turn_any _ _ (by omega) (by omega) _).mono ?_; rintro e w' ⟨rfl, rfl⟩)
      go_roundw
      case rel =>
        have HR := rnds_succ W _ k kk ww _ HST.out HKW.out
        simp only [sumE_form, sumA_form, ch_form, maj_form, u_add]
        exact ⟨k + 1, _, _, _, _, _, _, _, _, by omega, by go_num, HR, rfl, rfl, rfl, rfl, rfl, rfl, rfl, rfl, by first | exact hb2.drew | exact hb2⟩
      case measure => simp [intOf]; omega
    · obtain rfl : k = 64 := by omega
      have d0 : wr.cell? ⟨hb, 0, none⟩ = some (.int .u32 (x0.toNat : Int)) := (hb2.cell lh1).trans c0
      have d1 : wr.cell? ⟨hb, 1, none⟩ = some (.int .u32 (x1.toNat : Int)) := (hb2.cell lh1).trans c1
      have d2 : wr.cell? ⟨hb, 2, none⟩ = some (.int .u32 (x2.toNat : Int)) := (hb2.cell lh1).trans c2
      have d3 : wr.cell? ⟨hb, 3, none⟩ = some (.int .u32 (x3.toNat : Int)) := (hb2.cell lh1).trans c3
      have d4 : wr.cell? ⟨hb, 4, none⟩ = some (.int .u32 (x4.toNat : Int)) := (hb2.cell lh1).trans c4
      have d5 : wr.cell? ⟨hb, 5, none⟩ = some (.int .u32 (x5.toNat : Int)) := (hb2.cell lh1).trans c5
      have d6 : wr.cell? ⟨hb, 6, none⟩ = some (.int .u32 (x6.toNat : Int)) := (hb2.cell lh1).trans c6
      have d7 : wr.cell? ⟨hb, 7, none⟩ = some (.int .u32 (x7.toNat : Int)) := (hb2.cell lh1).trans c7
      clear c0 c1 c2 c3 c4 c5 c6 c7
      have HST' : Hid (∀ N, N = 64 → rnds W ⟨x0, x1, x2, x3, x4, x5, x6, x7⟩ N = ⟨va, vb, vc, vd, ve, vf, vg, vz⟩) := fun N hN => by rw [hN]; exact HST
      clear HST
      go_wp2_with fail
      go_region_held3 (fun w' => w'.cell? ⟨hb, 0, none⟩ = some (.int .u32 (x0.toNat : Int)) ∧ w'.cell? ⟨hb, 1, none⟩ = some (.int .u32 (x1.toNat : Int)) ∧ w'.cell? ⟨hb, 2, none⟩ = some (.int .u32 (x2.toNat : Int)) ∧ w'.cell? ⟨hb, 3, none⟩ = some (.int .u32 (x3.toNat : Int)) ∧ w'.cell? ⟨hb, 4, none⟩ = some (.int .u32 (x4.toNat : Int)) ∧ w'.cell? ⟨hb, 5, none⟩ = some (.int .u32 (x5.toNat : Int)) ∧ w'.cell? ⟨hb, 6, none⟩ = some (.int .u32 (x6.toNat : Int)) ∧ w'.cell? ⟨hb, 7, none⟩ = some (.int .u32 (x7.toNat : Int))) (go_keep) (fail)
      go_wp2
      go_ret
      have hs1 := hbel.size
      have hs2 := hb2.size
      rw [comp_form h (m.drop fr) W x0 x1 x2 x3 x4 x5 x6 x7 va vb vc vd ve vf vg vz HE.out (HW.out 64 rfl) (HST'.out 64 rfl)]
      exact ⟨wr.heap.size, rfl, (Row.of_block (base := w.heap.size) (by omega) (heap_alloc_new wr _) 8 (by simp) (.inl rfl)).drew, ((hbel.trans (hb2.mono hs1)).alloc (by omega) _).drew⟩
end Go.Proofs.YtofglikppppjoacDoor
namespace Go.Proofs.YtofglikppppjoacDoor
open Go.RowKit Go.Proofs.Sha

set_option maxRecDepth 100000 in
set_option maxHeartbeats 800000 in
theorem spec_any (s : ByteArray) (w : World) (hs : s.size ≤ 1048576) :
    Calls Tryd.prog 56 #[.string s] w fun e w' => e = .returned (.string ⟨(sha s.data.toList).toArray⟩) ∧ Below w.heap.size w w' := by
  obtain ⟨i0, hi0, hz0, hz1, hz2⟩ := info_parts info5
  have hsl : s.data.toList.length = s.size := rfl
  go_enter Tryd.func56, Tryd.ntmps56
  go_wp2_with fail
  refine (tab_any _).mono ?_
  rintro e w2 ⟨rfl, rfl⟩
  go_wp2_with fail
  refine (padded_any s _ hs).mono ?_
  rintro e w3 ⟨mb, mc, rfl, hrow, hbel⟩
  have hplen := pad_length s.data.toList
  have hpmod := pad_mod s.data.toList
  have hz := zpad_lt s.data.toList.length
  have htwo := two_blocks w hTab kTab 113
  have hcm := fun j hj => row_b hrow j hj
  have hmb := hrow.lt
  have hA : ∀ j, j < 8 → w3.cell? ⟨w.heap.size, j, none⟩ = some (.int .u32 ((hTab.getD j 0).toNat : Int)) := fun j hj => (hbel.cell (by simp; omega)).trans (htwo.1 j hj)
  have hK : ∀ j, j < 64 → w3.cell? ⟨w.heap.size + 1, j, none⟩ = some (.int .u32 ((kTab.getD j 0).toNat : Int)) := fun j hj => (hbel.cell (by simp)).trans (htwo.2 j hj)
  have hsz3 : w.heap.size + 2 ≤ w3.heap.size := by have := hbel.size; simpa using this
  have hbel3 : Below w.heap.size w w3 := (((Below.refl _ _).alloc (Nat.le_refl _) _).alloc (by simp) _).trans (hbel.mono (by simp; omega))
  clear htwo hbel hrow
  obtain ⟨p, hp⟩ : ∃ p, pad s.data.toList = p := ⟨_, rfl⟩
  rw [hp] at hplen hpmod hcm
  rw [hp]
  have HP : Hid (pad s.data.toList = p) := hp
  clear hp
  have hp2 : p.length ≤ 2000000 := by omega
  clear hplen hz
  have HM : Hid (∀ j, j < p.length → w3.cell? ⟨mb, j, none⟩ = some (.int .u8 ((p.getD j 0).toNat : Int))) := hcm
  have HK : Hid (∀ j, j < 64 → w3.cell? ⟨w.heap.size + 1, j, none⟩ = some (.int .u32 ((kTab.getD j 0).toNat : Int))) := hK
  clear hcm hK
  go_wp2_with fail
  go_loopw [3, 6] (fun v i wr => ∃ q g fr : Nat, fr ≤ p.length ∧ Hid (fr = 64 * q) ∧ i = .int .i64 (fr : Int) ∧ v = .slice (some ⟨g, 0, none⟩) 8 8 ∧ (∀ j, j < 8 → wr.cell? ⟨g, j, none⟩ = some (.int .u32 (((blocks p q).getD j 0).toNat : Int))) ∧ Below w3.heap.size w3 wr) (fun _ i _ => p.length - (intOf i).toNat)
  case atStart => exact ⟨0, w.heap.size, 0, by omega, rfl, rfl, rfl, hA, Below.refl _ _⟩
  case round =>
    clear hA
    obtain ⟨q, g, fr, hq, HQ, rfl, rfl, hcg, hb⟩ := hrel
    have hsr := hb.size
    have hgl : g < wr.heap.size := World.block_lt_of_cell? wr _ (hcg 0 (by omega))
    have HG : Hid (∀ j, j < 8 → wr.cell? ⟨g, j, none⟩ = some (.int .u32 (((blocks p q).getD j 0).toNat : Int))) := hcg
    clear hcg
    by_cases hlt : fr < p.length
    · have hfr : fr + 64 ≤ p.length := by have := HQ.out; omega
      go_wp2_with fail
      refine (block_any (blocks p q) g 8 (w.heap.size + 1) 64 p mb mc fr wr hp2 hfr (fun j hj => (hb.cell hmb).trans (HM.out j hj)) HG.out (fun j hj => (hb.cell (by exact hsz3)).trans (HK.out j hj))).mono ?_
      rintro e w4 ⟨g', rfl, hrow', hb'⟩
      go_wp2_with fail
      go_roundw
      case rel =>
        refine ⟨q + 1, g', fr + 64, by omega, ?_, by go_num, rfl, ?_, hb.trans (hb'.mono hsr)⟩
        · have := HQ.out; show fr + 64 = 64 * (q + 1); omega
        · intro j hj
          rw [blocks, ← HQ.out]; exact row_u hrow' j hj
      case measure => simp [intOf]; omega
    · obtain rfl : fr = p.length := by omega
      have HF : Hid (sha s.data.toList = outTo (blocks p q) 8) := by
        show sha s.data.toList = _
        unfold sha
        rw [HP.out, HQ.out]
        congr 2; omega
      have hbw : Below w.heap.size w wr := hbel3.trans (hb.mono (by omega))
      clear HM HK HP
      obtain ⟨w5, rfl⟩ : ∃ w5, w5 = wr := ⟨_, rfl⟩
      go_wp2_with fail
      go_loopw [7, 8] (fun v i wx => ∃ k go cap : Nat, k ≤ 8 ∧ i = .int .i64 (k : Int) ∧ v = .slice (some ⟨go, 0, none⟩) (4 * k) cap ∧ Row wx w5.heap.size go (4 * k) cap ((outTo (blocks p q) k).map B) ∧ Below w5.heap.size w5 wx) (fun _ i _ => 8 - (intOf i).toNat)
      case atStart => exact ⟨0, w5.heap.size, 0, by omega, rfl, rfl, Row.of_block (Nat.le_refl _) (heap_alloc_new w5 _) 0 (by simp) (.inl rfl), (Below.refl _ _).alloc (Nat.le_refl _) _⟩
      case round =>
        obtain ⟨k, go, cap, hk, rfl, rfl, hrow, hbx⟩ := hrel
        have hsx := hbx.size
        have hgo := hrow.ge
        by_cases hlt2 : k < 8
        · obtain ⟨x, hx⟩ : ∃ x, (blocks p q).getD k 0 = x := ⟨_, rfl⟩
          have cx : wr.cell? ⟨g, k, none⟩ = some (.int .u32 (x.toNat : Int)) := by rw [← hx]; exact (hbx.cell hgl).trans (HG.out k hlt2)
          have HX : Hid ((blocks p q).getD k 0 = x) := hx
          clear hx
          have hne : some g ≠ some go := by simp; omega
          have q0 : (0 : Int) ≤ (k : Int) := by omega
          have q1 : (k : Int) < 8 := by omega
          go_wp2_with fail
          go_region_held3 (fun w' => w'.cell? ⟨g, k, none⟩ = some (.int .u32 (x.toNat : Int)))
            (first | go_keep | (rw [hgrow.cell_far _ (by simp; omega) hne]; assumption))
            ((refine step_append_row _ (by rfl) _ _ _ (by rfl) 5 i0 _ 1 Tryd.underlying87 hi0 hz0 hz1 hz2 rfl w5.heap.size go (4 * k) cap _ (by rfl) ((hrow.alloc _).drew) ⟨wr.heap.size, 0, none⟩ 4 4 [_, _, _, _] (by rfl) (by rfl) (World.news_of_block (heap_alloc_new wr _)) (by simp [Value.oneCell']) (by unfold maxLen; omega) (by omega) (by simp; omega) (wr.heap.size + 1) (by simp) ?_; intro go' cap' wy hrow' hgrow hat hold))
          go_wp2
          go_roundw
          case rel =>
            rw [← outTo_succ (blocks p q) k x HX.out] at hrow'
            exact ⟨k + 1, go', cap', by omega, by go_num, rfl, hrow', (hbx.alloc hsx _).drew.grown hgrow (by simp; omega) (fun y hy => by cases hy; exact hgo)⟩
          case measure => simp [intOf]; omega
        · obtain rfl : k = 8 := by omega
          go_wp2_with (refine wpList_string_row _ rfl (.tmp 55) 87 9 5 rfl w5.heap.size go 32 cap _ rfl (by exact hrow) Tryd.underlying87 Tryd.underlying5 Tryd.underlying9 ?_)
          go_ret
          rw [HF.out]
          exact ⟨rfl, hbw.trans (hbx.mono hbw.size)⟩
end Go.Proofs.YtofglikppppjoacDoor
namespace Go.Proofs.YtofglikppppjoacDoor
open Go.RowKit Go.Proofs.Sha

theorem and31 (n : Nat) (hn : n ≤ 31) (h1 : 1 ≤ n) : bits BinOp.and IntKind.u64 (IntKind.u64.wrap (-(n:Int))) 31 = ((32 - n : Nat) : Int) := by
  have : n = 1 ∨ n = 2 ∨ n = 3 ∨ n = 4 ∨ n = 5 ∨ n = 6 ∨ n = 7 ∨ n = 8 ∨ n = 9 ∨ n = 10 ∨ n = 11 ∨ n = 12 ∨ n = 13 ∨ n = 14 ∨ n = 15 ∨ n = 16 ∨ n = 17 ∨ n = 18 ∨ n = 19 ∨ n = 20 ∨ n = 21 ∨ n = 22 ∨ n = 23 ∨ n = 24 ∨ n = 25 ∨ n = 26 ∨ n = 27 ∨ n = 28 ∨ n = 29 ∨ n = 30 ∨ n = 31 := by omega
  rcases this with h|h|h|h|h|h|h|h|h|h|h|h|h|h|h|h|h|h|h|h|h|h|h|h|h|h|h|h|h|h|h <;> subst h <;> decide

set_option maxHeartbeats 400000 in
theorem rot_any (x : UInt32) (m : Int) (h1 : m ≤ -1) (h2 : -31 ≤ m) (w : World) :
    Calls Tryd.prog 109 #[.int .u32 x.toNat, .int .i64 m] w fun e w' => e = .returned (.int .u32 (turn x (-m).toNat).toNat) ∧ w = w' := by
  obtain ⟨n, hn⟩ := Int.eq_ofNat_of_zero_le (show 0 ≤ -m by omega)
  obtain rfl : m = -(n : Int) := by omega
  rw [Int.neg_neg, Int.toNat_natCast]
  clear hn
  have hn1 : 1 ≤ n := by omega
  have hn2 : n ≤ 31 := by omega
  have ha := and31 n hn2 hn1
  go_enter Tryd.func109, Tryd.ntmps109
  go_wp2
  go_ret
  exact ⟨ret_int (by rw [show 32 - (32 - n) = n from by omega]; exact turn_impl x n), rfl⟩

def zeros32 : List UInt32 := List.replicate 64 0
theorem alloc46 (w : World) : (Instr.alloc 160 true (.tuple #[])).run Tryd.prog w = .ok (.pointer (some ⟨w.heap.size, 0, none⟩)) (w.alloc (.cells (zeros32.map U).toArray 160)) := by kernel_rfl
theorem size46 : (Tryd.prog.info? 160).map (·.size) = some 64 := by kernel_rfl

set_option maxRecDepth 100000 in
set_option maxHeartbeats 800000 in
theorem isched_any (b : Nat) (h : List UInt32) (kb : List UInt8) (held size : Nat) (w : World) (H : Hsh w b h kb held size) :
    Calls Tryd.prog 108 #[.pointer (some ⟨b, 0, none⟩)] w fun e w' => e = .returned (.agg ((sched kb 64).map U).toArray) ∧ Below w.heap.size w w' := by
  have hbl := H.lt
  go_enter Tryd.func108, Tryd.ntmps108
  go_wp2_with (first | (refine wpList_alloc_row _ rfl (some 2) rfl 160 160 rfl (zeros32.map U) alloc46 ?_; intro g2 w2 hr2 hb2) | (refine wpList_alloc_row _ rfl (some 3) rfl 160 160 rfl (zeros32.map U) alloc46 ?_; intro g3 w3 hr3 hb3))
  have hr2' : Row w2 w.heap.size g2 64 64 (zeros32.map U) := hr2
  have hr3' : Row w3 w2.heap.size g3 64 64 ((arr kb 0).map U) := hr3
  have h2 := hb2.size
  have h3 := hb3.size
  have hl2 := hr2.lt
  have hg3 := hr3.ge
  have hg2 := hr2.ge
  have HR2 : Row w3 w.heap.size g2 64 64 (zeros32.map U) := hr2'.below hb3
  have HH : Hsh w3 b h kb held size := (H.below hb2).below hb3
  have hbw : Below w.heap.size w w3 := hb2.trans (hb3.mono h2)
  clear hr2 hr3 hr2' H hb2 hb3
  go_loopw [4] (fun i wr => ∃ q : Nat, q ≤ 16 ∧ i = .int .i64 (q : Int) ∧ Row wr w2.heap.size g3 64 64 ((arr kb q).map U) ∧ w3.grownBy wr (some g3)) (fun i _ => 16 - (intOf i).toNat)
  case atStart => exact ⟨0, by omega, rfl, hr3', grownBy_refl _ _⟩
  case round =>
    clear hr3'
    obtain ⟨q, hq, rfl, hrow, hgr⟩ := hrel
    have hne : b ≠ g3 := by omega
    have hH : Hsh wr b h kb held size := HH.kept hgr (by simp; omega)
    by_cases hlt : q < 16
    · obtain ⟨p, hp⟩ : ∃ p, p = 4 * q := ⟨_, rfl⟩
      have c0 := hH.ks p (by omega)
      have c1 := hH.ks (p + 1) (by omega)
      have c2 := hH.ks (p + 2) (by omega)
      have c3 := hH.ks (p + 3) (by omega)
      generalize hb0 : kb.getD p 0 = b0 at c0
      generalize hb1 : kb.getD (p + 1) 0 = b1 at c1
      generalize hb2 : kb.getD (p + 2) 0 = b2 at c2
      generalize hb3 : kb.getD (p + 3) 0 = b3 at c3
      have HB : Hid (kb.getD p 0 = b0 ∧ kb.getD (p + 1) 0 = b1 ∧ kb.getD (p + 2) 0 = b2 ∧ kb.getD (p + 3) 0 = b3) := ⟨hb0, hb1, hb2, hb3⟩
      clear hb0 hb1 hb2 hb3 hH
      have ct := row_u hrow q (by omega)
      have cf := hrow.free q (by omega)
      have w0 : IntKind.i64.wrap (4 * (q : Int)) = (p : Int) := by rw [wrap_i64_in _ (by omega) (by omega)]; omega
      have q0 : (0 : Int) ≤ (p : Int) := by omega
      have q1 : (p : Int) < 64 := by omega
      have q2 : (p : Int) + 1 < 64 := by omega
      have q3 : (p : Int) + 2 < 64 := by omega
      have q4 : (p : Int) + 3 < 64 := by omega
      have w1 : IntKind.i64.wrap ((p : Int) + 1) = (p : Int) + 1 := wrap_i64_in _ (by omega) (by omega)
      have r1 : (0 : Int) ≤ (p : Int) + 1 := by omega
      have t1 : ((p : Int) + 1).toNat = p + 1 := by omega
      have wp2 : IntKind.i64.wrap ((p : Int) + 2) = (p : Int) + 2 := wrap_i64_in _ (by omega) (by omega)
      have r2 : (0 : Int) ≤ (p : Int) + 2 := by omega
      have t2 : ((p : Int) + 2).toNat = p + 2 := by omega
      have wp3 : IntKind.i64.wrap ((p : Int) + 3) = (p : Int) + 3 := wrap_i64_in _ (by omega) (by omega)
      have r3 : (0 : Int) ≤ (p : Int) + 3 := by omega
      have t3 : ((p : Int) + 3).toNat = p + 3 := by omega
      have s0 : (0 : Int) ≤ (q : Int) := by omega
      have s1 : (q : Int) < 64 := by omega
      have HP : Hid (p = 4 * q) := hp
      clear hp
      go_wp2_with fail
      go_region_held3 (fun w' => w'.cell? ⟨b, 8 + p, none⟩ = some (.int .u8 (b0.toNat : Int)) ∧ w'.cell? ⟨b, 8 + (p + 1), none⟩ = some (.int .u8 (b1.toNat : Int)) ∧ w'.cell? ⟨b, 8 + (p + 2), none⟩ = some (.int .u8 (b2.toNat : Int)) ∧ w'.cell? ⟨b, 8 + (p + 3), none⟩ = some (.int .u8 (b3.toNat : Int)))
        (first | exact ⟨c0, c1, c2, c3⟩ | exact ⟨(cell_set_far _ _ _ _ _ _ hne).trans c0, (cell_set_far _ _ _ _ _ _ hne).trans c1, (cell_set_far _ _ _ _ _ _ hne).trans c2, (cell_set_far _ _ _ _ _ _ hne).trans c3⟩) (fail)
      rw [word_form]
      go_wp2
      go_roundw
      case rel =>
        refine ⟨q + 1, by omega, by go_num, ?_, ?_⟩
        · rw [← arr_lo kb q p b0 b1 b2 b3 hlt HP.out HB.out, word_form]; exact (hrow.set q (by omega) _).drew
        · exact grownBy_drewR (grownBy_trans hgr (grownBy_setCell _ _ _ _))
      case measure => simp [intOf]; omega
    · obtain rfl : q = 16 := by omega
      obtain ⟨w4, rfl⟩ : ∃ w4, w4 = wr := ⟨_, rfl⟩
      clear hH
      go_wp2_with fail
      go_loopw [5] (fun i wr => ∃ q : Nat, 16 ≤ q ∧ q ≤ 64 ∧ i = .int .i64 (q : Int) ∧ Row wr w2.heap.size g3 64 64 ((arr kb q).map U) ∧ w3.grownBy wr (some g3)) (fun i _ => 64 - (intOf i).toNat)
      case atStart => exact ⟨16, by omega, by omega, rfl, hrow, hgr⟩
      case round =>
        clear hrow hgr
        obtain ⟨q, hq16, hq, rfl, hrow, hgr⟩ := hrel
        by_cases hlt : q < 64
        · have c15 := row_u hrow (q - 15) (by omega)
          have c2 := row_u hrow (q - 2) (by omega)
          have c16 := row_u hrow (q - 16) (by omega)
          have c7 := row_u hrow (q - 7) (by omega)
          have ct := row_u hrow q (by omega)
          have cf := hrow.free q (by omega)
          rw [arr_getD kb q _ (by omega)] at c15 c2 c16 c7
          generalize h15 : (sched kb q).getD (q - 15) 0 = x15 at *
          generalize h2' : (sched kb q).getD (q - 2) 0 = x2 at *
          generalize h16' : (sched kb q).getD (q - 16) 0 = x16 at *
          generalize h7 : (sched kb q).getD (q - 7) 0 = x7 at *
          have HB : Hid ((sched kb q).getD (q - 16) 0 = x16 ∧ (sched kb q).getD (q - 15) 0 = x15 ∧ (sched kb q).getD (q - 7) 0 = x7 ∧ (sched kb q).getD (q - 2) 0 = x2) := ⟨h16', h15, h7, h2'⟩
          clear h15 h2' h16' h7
          have k1 : (q : Int) - 16 < 64 := by omega
          have k2 : (q : Int) - 7 < 64 := by omega
          have k3 : (q : Int) - 15 < 64 := by omega
          have k4 : (q : Int) - 2 < 64 := by omega
          have k5 : (q : Int) < 64 := by omega
          have k6 : (0 : Int) ≤ (q : Int) := by omega
          have w1 : IntKind.i64.wrap ((q : Int) - 16) = (q : Int) - 16 := wrap_i64_in _ (by omega) (by omega)
          have r1 : (16 : Int) ≤ (q : Int) := by omega
          have t1 : ((q : Int) - 16).toNat = q - 16 := by omega
          have w2' : IntKind.i64.wrap ((q : Int) - 7) = (q : Int) - 7 := wrap_i64_in _ (by omega) (by omega)
          have r2 : (7 : Int) ≤ (q : Int) := by omega
          have t2 : ((q : Int) - 7).toNat = q - 7 := by omega
          have w3' : IntKind.i64.wrap ((q : Int) - 15) = (q : Int) - 15 := wrap_i64_in _ (by omega) (by omega)
          have r3 : (15 : Int) ≤ (q : Int) := by omega
          have t3 : ((q : Int) - 15).toNat = q - 15 := by omega
          have w4' : IntKind.i64.wrap ((q : Int) - 2) = (q : Int) - 2 := wrap_i64_in _ (by omega) (by omega)
          have r4 : (2 : Int) ≤ (q : Int) := by omega
          have t4 : ((q : Int) - 2).toNat = q - 2 := by omega
          go_wp2_with fail
          go_region_held3 (fun w' => w'.cell? ⟨g3, q - 2, none⟩ = some (.int .u32 (x2.toNat : Int)) ∧ w'.cell? ⟨g3, q - 15, none⟩ = some (.int .u32 (x15.toNat : Int))) (exact ⟨c2, c15⟩) (fail)
          go_wp2_with (go_at_call 109; refine (rot_any _ _ (by omega) (by omega) _).mono ?_; rintro e w' ⟨rfl, rfl⟩)
          rw [far_form, near_form]
          generalize hs0 : sumFar x15 = sf at *
          generalize hs1 : sumNear x2 = sn at *
          have HS : Hid (sumFar x15 = sf ∧ sumNear x2 = sn) := ⟨hs0, hs1⟩
          clear hs0 hs1
          go_region_held3 (fun w' => w'.cell? ⟨g3, q - 7, none⟩ = some (.int .u32 (x7.toNat : Int)) ∧ w'.cell? ⟨g3, q - 16, none⟩ = some (.int .u32 (x16.toNat : Int))) (first | exact ⟨c7, c16⟩ | exact ⟨(cell_set_ne _ _ _ _ _ (by omega)).trans c7, (cell_set_ne _ _ _ _ _ (by omega)).trans c16⟩) (fail)
          rw [wrap_add, wrap_add, wrap_add]
          generalize hv : sn + x7 + sf + x16 = nv
          have HV : Hid (sn + x7 + sf + x16 = nv) := hv
          clear hv
          go_wp2
          go_roundw
          case rel =>
            have e := arr_hi kb q x16 x15 x7 x2 hq16 hlt HB.out
            rw [HS.out.1, HS.out.2, wrap_add, wrap_add, wrap_add, HV.out] at e
            (repeat apply Exists.intro)
            refine ⟨⟨q + 1, by omega, by omega, by go_num, ?_, ?_⟩, rfl⟩
            · rw [← e]; exact (hrow.set q (by omega) _).drew.drew
            · exact grownBy_drewR (grownBy_drewR (grownBy_trans hgr (grownBy_setCell _ _ _ _)))
          case measure => simp [intOf]; omega
        · obtain rfl : q = 64 := by omega
          have hR2 : Row wr w.heap.size g2 64 64 (zeros32.map U) := HR2.kept hgr (by simp; omega)
          rw [arr_full] at hrow
          have hln : ((sched kb 64).map U).length = 64 := by rw [List.length_map, sched_length]
          have h1c : ∀ v ∈ (sched kb 64).map U, v.oneCell' = true := by
            intro v hv
            obtain ⟨x, _, rfl⟩ := List.mem_map.1 hv
            rfl
          have HF : Hid (∀ N, N = 64 → Row wr w2.heap.size g3 64 64 ((sched kb N).map U) ∧ ((sched kb N).map U).length = 64 ∧ ∀ v ∈ (sched kb N).map U, v.oneCell' = true) := fun N hN => by subst hN; exact ⟨hrow, hln, h1c⟩
          clear hrow hln h1c
          obtain ⟨L, hL⟩ : ∃ L, (sched kb 64).map U = L := ⟨_, rfl⟩
          have HL : Hid (∀ N, N = 64 → (sched kb N).map U = L) := fun N hN => by subst hN; exact hL
          have F := HF.out 64 rfl
          rw [hL] at F
          obtain ⟨F1, F2, F3⟩ := F
          clear hL HF
          go_wp2_with (first | (refine wpList_load_whole _ rfl 160 (.tmp 3) rfl w2.heap.size g3 64 64 L 113 rfl F1 Tryd.underlying160 size46 ?_) | (refine wpList_store_whole _ rfl rfl 160 (.tmp 2) (.tmp 100) rfl w.heap.size g2 64 (zeros32.map U) L rfl rfl hR2 F2 size46 F3 ?_; intro w5 hR5 hg5))
          refine ret_row _ (p := 2) (ty := 160) rfl w.heap.size g2 64 64 L 113 rfl hR5 Tryd.underlying160 size46 rfl ?_
          refine ⟨?_, ?_⟩
          · rw [← HL.out 64 rfl]
          · exact (hbw.trans (below_of_grown hgr (by omega) (by omega))).trans (below_of_grown hg5 (by omega) (by have := hgr.size; omega))
end Go.Proofs.YtofglikppppjoacDoor
namespace Go.Proofs.YtofglikppppjoacDoor
open Go.RowKit Go.Proofs.Sha

theorem ch_form2 (e f g : UInt32) : bits BinOp.xor IntKind.u32 (bits BinOp.and IntKind.u32 (e.toNat : Int) (f.toNat : Int)) (bits BinOp.and IntKind.u32 (bits BinOp.xor IntKind.u32 IntKind.u32.max (e.toNat : Int)) (g.toNat : Int)) = ((ch e f g).toNat : Int) := ch_form e f g
theorem size41 : (Tryd.prog.info? 148).map (·.size) = some 8 := by kernel_rfl
theorem size24 : (Tryd.prog.info? 113).map (·.size) = some 1 := by kernel_rfl

set_option maxRecDepth 100000 in
set_option maxHeartbeats 1600000 in
theorem mix_any (b : Nat) (x0 x1 x2 x3 x4 x5 x6 x7 : UInt32) (kb : List UInt8) (held size : Nat) (w : World) (H : Hsh w b [x0, x1, x2, x3, x4, x5, x6, x7] kb held size) (_hb0 : b ≠ 0)
    (hK : ∀ j, j < 64 → w.cell? ⟨0, j, none⟩ = some (.int .u32 ((kTab.getD j 0).toNat : Int))) :
    Calls Tryd.prog 101 #[.pointer (some ⟨b, 0, none⟩)] w fun e w' => e = .returned (.tuple #[]) ∧ Hsh w' b (comp [x0, x1, x2, x3, x4, x5, x6, x7] kb) kb 0 size ∧ w.grownBy w' (some b) := by
  have hbl := H.lt
  have hl0 : 0 < w.heap.size := by omega
  have hWl := sched_length kb 64
  have h1c : ∀ v ∈ (sched kb 64).map U, v.oneCell' = true := by
    intro v hv
    obtain ⟨x, _, rfl⟩ := List.mem_map.1 hv
    rfl
  have hsa := isched_any b [x0, x1, x2, x3, x4, x5, x6, x7] kb held size w H
  obtain ⟨W, hW⟩ : ∃ W, sched kb 64 = W := ⟨_, rfl⟩
  rw [hW] at hWl h1c hsa
  have HW : Hid (∀ N, N = 64 → sched kb N = W) := fun N hN => by rw [hN]; exact hW
  clear hW
  have hLW : (W.map U).length = 64 := by rw [List.length_map, hWl]
  obtain ⟨L, hL⟩ : ∃ L, W.map U = L := ⟨_, rfl⟩
  have HL : Hid (W.map U = L) := hL
  rw [hL] at hLW h1c hsa
  clear hL
  go_enter Tryd.func101, Tryd.ntmps101
  go_wp2_with fail
  refine hsa.mono ?_
  rintro e w1 ⟨rfl, hb1⟩
  clear hsa
  have hs1 := hb1.size
  go_wp2_with (first | (refine wpList_alloc_row _ rfl (some 2) rfl 160 160 rfl (zeros32.map U) alloc46 ?_; intro g2 w2 hr2 hb2) | (refine wpList_store_whole _ rfl rfl 160 (.tmp 2) (.tmp 21) rfl w1.heap.size g2 64 (zeros32.map U) L rfl rfl hr2 hLW size46 h1c ?_; intro w3 hr3 hg3))
  have hg2l := hr2.ge
  have hg2g := hr2.lt
  have hs2 := hb2.size
  have hs3 := hg3.size
  have H3 : Hsh w3 b [x0, x1, x2, x3, x4, x5, x6, x7] kb held size := ((H.below hb1).below hb2).kept hg3 (by simp; omega)
  have hB3 : Below w.heap.size w w3 := (hb1.trans (hb2.mono hs1)).trans (below_of_grown hg3 (by omega) (by omega))
  have hK3 : ∀ j, j < 64 → w3.cell? ⟨0, j, none⟩ = some (.int .u32 ((kTab.getD j 0).toNat : Int)) := fun j hj => (hB3.cell (by exact hl0)).trans (hK j hj)
  have hC3 : ∀ j, j < 64 → w3.cell? ⟨g2, j, none⟩ = some (.int .u32 ((W.getD j 0).toNat : Int)) := by rw [← HL.out] at hr3; exact fun j hj => row_u hr3 j hj
  have HK : Hid (∀ j, j < 64 → w3.cell? ⟨0, j, none⟩ = some (.int .u32 ((kTab.getD j 0).toNat : Int))) := hK3
  have HC : Hid (∀ j, j < 64 → w3.cell? ⟨g2, j, none⟩ = some (.int .u32 ((W.getD j 0).toNat : Int))) := hC3
  have c0 : w3.cell? ⟨b, 0, none⟩ = some (.int .u32 (x0.toNat : Int)) := H3.hs 0 (by omega)
  have c1 : w3.cell? ⟨b, 1, none⟩ = some (.int .u32 (x1.toNat : Int)) := H3.hs 1 (by omega)
  have c2 : w3.cell? ⟨b, 2, none⟩ = some (.int .u32 (x2.toNat : Int)) := H3.hs 2 (by omega)
  have c3 : w3.cell? ⟨b, 3, none⟩ = some (.int .u32 (x3.toNat : Int)) := H3.hs 3 (by omega)
  have c4 : w3.cell? ⟨b, 4, none⟩ = some (.int .u32 (x4.toNat : Int)) := H3.hs 4 (by omega)
  have c5 : w3.cell? ⟨b, 5, none⟩ = some (.int .u32 (x5.toNat : Int)) := H3.hs 5 (by omega)
  have c6 : w3.cell? ⟨b, 6, none⟩ = some (.int .u32 (x6.toNat : Int)) := H3.hs 6 (by omega)
  have c7 : w3.cell? ⟨b, 7, none⟩ = some (.int .u32 (x7.toNat : Int)) := H3.hs 7 (by omega)
  have hl3 : g2 < w3.heap.size := by omega
  have hl30 : 0 < w3.heap.size := by omega
  clear hK hK3 hC3 hr2 hr3 hg3 hb2 hb1 h1c hLW HL H
  go_region_held3 (fun w' => w'.cell? ⟨b, 0, none⟩ = some (.int .u32 (x0.toNat : Int)) ∧ w'.cell? ⟨b, 1, none⟩ = some (.int .u32 (x1.toNat : Int)) ∧ w'.cell? ⟨b, 2, none⟩ = some (.int .u32 (x2.toNat : Int)) ∧ w'.cell? ⟨b, 3, none⟩ = some (.int .u32 (x3.toNat : Int))) (exact ⟨c0, c1, c2, c3⟩) (fail)
  go_wp2_with fail
  go_region_held3 (fun w' => w'.cell? ⟨b, 4, none⟩ = some (.int .u32 (x4.toNat : Int)) ∧ w'.cell? ⟨b, 5, none⟩ = some (.int .u32 (x5.toNat : Int)) ∧ w'.cell? ⟨b, 6, none⟩ = some (.int .u32 (x6.toNat : Int)) ∧ w'.cell? ⟨b, 7, none⟩ = some (.int .u32 (x7.toNat : Int))) (exact ⟨c4, c5, c6, c7⟩) (fail)
  go_wp2_with fail
  go_loopw [3, 4, 5, 6, 7, 8, 9, 10, 11] (fun ta tb tc td te tf tg tz i wr => ∃ (k : Nat) (va vb vc vd ve vf vg vz : UInt32), k ≤ 64 ∧ i = .int .i64 k ∧ Hid (rnds W ⟨x0, x1, x2, x3, x4, x5, x6, x7⟩ k = ⟨va, vb, vc, vd, ve, vf, vg, vz⟩) ∧ ta = .int .u32 (va.toNat : Int) ∧ tb = .int .u32 (vb.toNat : Int) ∧ tc = .int .u32 (vc.toNat : Int) ∧ td = .int .u32 (vd.toNat : Int) ∧ te = .int .u32 (ve.toNat : Int) ∧ tf = .int .u32 (vf.toNat : Int) ∧ tg = .int .u32 (vg.toNat : Int) ∧ tz = .int .u32 (vz.toNat : Int) ∧ Below w3.heap.size w3 wr) (fun _ _ _ _ _ _ _ _ i _ => 64 - (intOf i).toNat)
  case atStart => exact ⟨0, x0, x1, x2, x3, x4, x5, x6, x7, Nat.zero_le _, rfl, rfl, rfl, rfl, rfl, rfl, rfl, rfl, rfl, rfl, (Below.refl _ _).drew.drew⟩
  case round =>
    obtain ⟨k, va, vb, vc, vd, ve, vf, vg, vz, hk, rfl, HST, rfl, rfl, rfl, rfl, rfl, rfl, rfl, rfl, hb2⟩ := hrel
    by_cases hlt : k < 64
    · obtain ⟨kk, hkk⟩ : ∃ x, kTab.getD k 0 = x := ⟨_, rfl⟩
      obtain ⟨ww, hww⟩ : ∃ x, W.getD k 0 = x := ⟨_, rfl⟩
      have ck : wr.cell? ⟨0, k, none⟩ = some (.int .u32 (kk.toNat : Int)) := by rw [← hkk]; exact (hb2.cell hl30).trans (HK.out k hlt)
      have cw : wr.cell? ⟨g2, k, none⟩ = some (.int .u32 (ww.toNat : Int)) := by rw [← hww]; exact (hb2.cell hl3).trans (HC.out k hlt)
      have HKW : Hid (kTab.getD k 0 = kk ∧ W.getD k 0 = ww) := ⟨hkk, hww⟩
      clear hkk hww
      have q0 : (0 : Int) ≤ (k : Int) := by omega
      have q1 : (k : Int) < 64 := by omega
      go_wp2_with (go_at_call 109; refine (rot_any _ _ (by omega) (by omega) _).mono ?_; rintro e w' ⟨rfl, rfl⟩)
      rw [sumE_form, sumA_form, ch_form2, maj_form]
      go_region_held3 (fun w' => w'.cell? ⟨0, k, none⟩ = some (.int .u32 (kk.toNat : Int)) ∧ w'.cell? ⟨g2, k, none⟩ = some (.int .u32 (ww.toNat : Int))) (exact ⟨ck, cw⟩) (fail)
      go_wp2
      go_roundw
      case rel =>
        have HR := rnds_succ W _ k kk ww _ HST.out HKW.out
        simp only [u_add]
        exact ⟨k + 1, _, _, _, _, _, _, _, _, by omega, by go_num, HR, rfl, rfl, rfl, rfl, rfl, rfl, rfl, rfl, by first | exact hb2.drew | exact hb2⟩
      case measure => simp [intOf]; omega
    · obtain rfl : k = 64 := by omega
      obtain ⟨w4, rfl⟩ : ∃ w4, w4 = wr := ⟨_, rfl⟩
      have H4 : Hsh w4 b [x0, x1, x2, x3, x4, x5, x6, x7] kb held size := H3.below hb2
      have HST' : Hid (∀ N, N = 64 → rnds W ⟨x0, x1, x2, x3, x4, x5, x6, x7⟩ N = ⟨va, vb, vc, vd, ve, vf, vg, vz⟩) := fun N hN => by rw [hN]; exact HST
      clear HST c0 c1 c2 c3 c4 c5 c6 c7 H3 HK HC
      have hg4 : w.grownBy w4 (some b) := grownBy_of_below (hB3.trans (hb2.mono (by omega))) _
      go_wp2_with fail
      go_loopw [138] (fun t wr => ∃ i : Nat, i ≤ 8 ∧ t = .int .i64 (i : Int) ∧ Hsh wr b (addTo [x0, x1, x2, x3, x4, x5, x6, x7] [va, vb, vc, vd, ve, vf, vg, vz] i) kb held size ∧ w.grownBy wr (some b)) (fun t _ => 8 - (intOf t).toNat)
      case atStart => exact ⟨0, by omega, rfl, H4, hg4⟩
      case round =>
        clear H4 hg4 hb2
        obtain ⟨i, hi, rfl, HH, hgr⟩ := hrel
        by_cases hlt : i < 8
        · obtain ⟨x, hx⟩ : ∃ x, (addTo [x0, x1, x2, x3, x4, x5, x6, x7] [va, vb, vc, vd, ve, vf, vg, vz] i).getD i 0 = x := ⟨_, rfl⟩
          obtain ⟨y, hy⟩ : ∃ y, [va, vb, vc, vd, ve, vf, vg, vz].getD i 0 = y := ⟨_, rfl⟩
          have cx : wr.cell? ⟨b, i, none⟩ = some (.int .u32 (x.toNat : Int)) := by rw [← hx]; exact HH.hs i hlt
          have cf := HH.fr i (by omega)
          have HXY : Hid ((addTo [x0, x1, x2, x3, x4, x5, x6, x7] [va, vb, vc, vd, ve, vf, vg, vz] i).getD i 0 = x ∧ [va, vb, vc, vd, ve, vf, vg, vz].getD i 0 = y) := ⟨hx, hy⟩
          clear hx hy
          have q0 : (0 : Int) ≤ (i : Int) := by omega
          have q1 : (i : Int) < 8 := by omega
          go_wp2_with (refine wpList_index_u _ rfl 148 (.tmp 137) (.tmp 138) rfl [va, vb, vc, vd, ve, vf, vg, vz] 8 113 i rfl rfl rfl hlt Tryd.underlying148 Tryd.underlying113 size24 ?_; rw [HXY.out.2])
          go_region
          go_wp2
          go_roundw
          case rel =>
            have e : addTo [x0, x1, x2, x3, x4, x5, x6, x7] [va, vb, vc, vd, ve, vf, vg, vz] (i + 1) = (addTo [x0, x1, x2, x3, x4, x5, x6, x7] [va, vb, vc, vd, ve, vf, vg, vz] i).set i (x + y) := by rw [addTo, HXY.out.1, HXY.out.2]
            have hw2 := u_add x y
            simp only [hw2]
            first
              | exact ⟨i + 1, by omega, by go_num, by rw [e]; exact (HH.setWord i hlt (x + y)).drew, grownBy_drewR (grownBy_trans hgr (grownBy_setCell _ _ _ _))⟩
              | ((repeat apply Exists.intro); exact ⟨⟨i + 1, by omega, by go_num, by rw [e]; exact (HH.setWord i hlt (x + y)).drew, grownBy_drewR (grownBy_trans hgr (grownBy_setCell _ _ _ _))⟩, rfl⟩)
          case measure => simp [intOf]; omega
        · obtain rfl : i = 8 := by omega
          have cd := HH.hd
          have cf := HH.fr 72 (by omega)
          go_wp2
          go_end0
          refine ⟨rfl, ?_, grownBy_trans hgr (grownBy_setCell _ _ _ _)⟩
          rw [← addTo_comp kb W x0 x1 x2 x3 x4 x5 x6 x7 va vb vc vd ve vf vg vz (HW.out 64 rfl) (HST'.out 64 rfl)]
          exact HH.setHeld 0
end Go.Proofs.YtofglikppppjoacDoor
namespace Go.Proofs.Sha
open Go Go.RowKit

def heldOf (w : World) (b : Nat) : Nat := (intOf ((w.cell? ⟨b, 72, none⟩).getD undef)).toNat
theorem Hsh.heldOf {w : World} {b : Nat} {h : List UInt32} {k : List UInt8} {held size : Nat} (H : Hsh w b h k held size) : heldOf w b = held := by
  unfold Sha.heldOf; rw [H.hd]; simp [intOf]

/-- n zeros from place p on. -/
def zf (k : List UInt8) (p : Nat) : Nat → List UInt8
  | 0 => k
  | n + 1 => (zf k p n).set (p + n) 0
theorem zf_length (k : List UInt8) (p n : Nat) : (zf k p n).length = k.length := by
  induction n with
  | zero => rfl
  | succ n ih => rw [zf, List.length_set, ih]
theorem zf_getD (k : List UInt8) (p n j : Nat) (hn : p + n ≤ k.length) : (zf k p n).getD j 0 = if p ≤ j ∧ j < p + n then 0 else k.getD j 0 := by
  induction n with
  | zero => rw [zf, if_neg (by omega)]
  | succ n ih =>
    rw [zf, getD_set _ _ _ _ _ (by rw [zf_length]; omega), ih (by omega)]
    by_cases e : j = p + n
    · rw [if_pos e, if_pos (by omega)]
    · rw [if_neg e]
      by_cases e2 : p ≤ j ∧ j < p + n
      · rw [if_pos e2, if_pos (by omega)]
      · rw [if_neg e2, if_neg (by omega)]


def outArr (h : List UInt32) (i : Nat) : List UInt8 := outTo h i ++ List.replicate (32 - 4 * i) 0
theorem set4 {α : Type} (A R : List α) (n : Nat) (hn : A.length = n) (z0 z1 z2 z3 a b c d : α) :
    ((((A ++ z0 :: z1 :: z2 :: z3 :: R).set n a).set (n + 1) b).set (n + 2) c).set (n + 3) d = (A ++ [a, b, c, d]) ++ R := by
  subst hn
  rw [List.set_append_right _ _ (Nat.le_refl _), List.set_append_right _ _ (by omega), List.set_append_right _ _ (by omega), List.set_append_right _ _ (by omega)]
  simp
theorem outArr_succ (h : List UInt32) (i : Nat) (x : UInt32) (hi : i < 8) (hx : h.getD i 0 = x) :
    (((((outArr h i).map B).set (4 * i) (.int .u8 ((byteAt x 3).toNat : Int))).set (4 * i + 1) (.int .u8 ((byteAt x 2).toNat : Int))).set (4 * i + 2) (.int .u8 ((byteAt x 1).toNat : Int))).set (4 * i + 3) (.int .u8 ((byteAt x 0).toNat : Int)) = (outArr h (i + 1)).map B := by
  have e : 32 - 4 * i = (32 - 4 * (i + 1)) + 4 := by omega
  show ((((_ : List Value).set (4 * i) (B (byteAt x 3))).set (4 * i + 1) (B (byteAt x 2))).set (4 * i + 2) (B (byteAt x 1))).set (4 * i + 3) (B (byteAt x 0)) = _
  rw [← List.map_set, ← List.map_set, ← List.map_set, ← List.map_set, outArr, e, outArr, outTo, hx]
  congr 1
  exact set4 (outTo h i) _ (4 * i) (outTo_length h i) 0 0 0 0 _ _ _ _
theorem outArr_full (h : List UInt32) : outArr h 8 = outTo h 8 := by simp [outArr]
theorem outArr_length (h : List UInt32) (i : Nat) (hi : i ≤ 8) : (outArr h i).length = 32 := by simp [outArr, outTo_length]; omega
theorem byteAt_mod (x : UInt32) (i : Nat) : ((x.toNat : Int) / 2 ^ (8 * i)) % 256 = ((byteAt x i).toNat : Int) := by
  have := byteAt_form x i; rw [IntKind.wrap_u8'] at this; exact this
theorem byteM3 (x : UInt32) : (x.toNat : Int) / (16777216 : Int) % 256 = ((byteAt x 3).toNat : Int) := byteAt_mod x 3
theorem byteM2 (x : UInt32) : (x.toNat : Int) / (65536 : Int) % 256 = ((byteAt x 2).toNat : Int) := byteAt_mod x 2
theorem byteM1 (x : UInt32) : (x.toNat : Int) / (256 : Int) % 256 = ((byteAt x 1).toNat : Int) := byteAt_mod x 1
theorem byteM0 (x : UInt32) : (x.toNat : Int) % 256 = ((byteAt x 0).toNat : Int) := by
  have := byteAt_mod x 0
  simpa using this


end Go.Proofs.Sha
