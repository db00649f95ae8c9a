import Derived.Test.YtfmpjlpakldheaaGreatDoorZrak
import Derived.Test.YtfmpjlpakldheaaGreatDoorZraj
import Derived.Test.YtfmpjlpakldheaaGreatDoorZrai
import Derived.Lib.BufferWrite
import Derived.Deep.AppendLies
import Derived.Deep.Cut
set_option maxRecDepth 100000
set_option maxHeartbeats 2000000
namespace Go.Proofs.YtfmpjlpakldheaaGreatDoor
open Go.RowKit Go.Proofs.Sha Tryz
def Ptr (p : Option Addr) (w : World) : Prop := p = none \/ ∃ (x : Nat) (cs : Array Value) (u : TypeId), p = some ⟨x, 0, none⟩ /\ w.heap[x]? = some (.cells cs u (0, 0))
theorem size125 : (prog.info? 131).map (·.size) = some 33 := by kernel_rfl
theorem size75 : (prog.info? 166).map (·.size) = some 10 := by kernel_rfl
theorem ptr_eqlR (a b : Option Addr) (w : World) (ha : Ptr a w) (hb : Ptr b w) : (binOp .eql 162 (.pointer a) (.pointer b)).run prog w = .ok (.bool (decide (a = b))) w := by
 obtain ⟨j, h1, h2⟩ := Option.map_eq_some_iff.1 size125
 exact run_eql_ptr 162 131 j Tryz.underlying162 h1 (by rw [h2]; decide) a b w ha hb
theorem ptr_eqlB (a b : Option Addr) (w : World) (ha : Ptr a w) (hb : Ptr b w) : (binOp .eql 161 (.pointer a) (.pointer b)).run prog w = .ok (.bool (decide (a = b))) w := by
 obtain ⟨j, h1, h2⟩ := Option.map_eq_some_iff.1 size75
 exact run_eql_ptr 161 166 j Tryz.underlying161 h1 (by rw [h2]; decide) a b w ha hb
def hgW (a b : ByteArray) : Bool := rk (sha a.data.toList) (sha b.data.toList) a.data.toList b.data.toList
def ParAt (par : Option Addr) (pk : ByteArray) (w : World) : Prop := (par = none /\ emp pk = true) \/ (emp pk = false /\ ∃ g, par = some ⟨g, 0, none⟩ /\ RKb g pk w)
theorem fits_no (over under key : ByteArray) (par : Option Addr) (w : World) (h : insW over under key = false) : Calls prog 184 #[.agg #[.string over, .string under, .pointer par], .agg (rkL key).toArray] w fun e w' => e = .returned (.bool false) /\ Below w.heap.size w w' := by
 obtain ⟨W, hW⟩ : ∃ W, (w.alloc (.cells #[.string over, .string under, .pointer par] 164)).alloc (.cells (rkL key).toArray 131) = W := ⟨_, rfl⟩
 have hb : Below w.heap.size w W := by rw [<- hW]; exact ((Below.refl _ _).alloc (Nat.le_refl _) _).alloc (by simp) _
 have n0 : W.heap[w.heap.size]? = some (.cells #[.string over, .string under, .pointer par] 164) := by rw [<- hW, Below.heap_alloc _ _ _ (by simp)]; exact heap_alloc_new w _
 have n1 : W.heap[w.heap.size + 1]? = some (.cells (rkL key).toArray 131) := by
  have := heap_alloc_new (w.alloc (.cells #[.string over, .string under, .pointer par] 164)) (.cells (rkL key).toArray 131)
  rw [<- hW]; simpa using this
 have ca : W.cell? ⟨w.heap.size, 0, none⟩ = some (.string over) := ZC n0 0
 have cc : W.cell? ⟨w.heap.size, 1, none⟩ = some (.string under) := ZC n0 1
 have cb : W.cell? ⟨w.heap.size + 1, 32, none⟩ = some (.string key) := RKb.c32 n1
 generalize (rkL key).toArray = cs at hW n1
 obtain ⟨ga, hga⟩ : ∃ ga, w.heap.size = ga := ⟨_, rfl⟩
 rw [hga] at ca cb cc
 cases a1 : Op.bytesLess key.toList over.toList with
 | true =>
  go_enter func184, ntmps184
  go_wp2_with fail
  go_ret
  exact ⟨rfl, by rw [hga] at hb ⊢; exact hb⟩
 | false =>
  cases a2 : (key.toList == over.toList) with
  | true =>
   go_enter func184, ntmps184
   go_wp2_with fail
   go_ret
   exact ⟨rfl, by rw [hga] at hb ⊢; exact hb⟩
  | false =>
   have hin : (emp under || lessB key under) = false := by
    unfold insW at h
    rw [lessB_tri over key] at h
    have : lessB key over = false := a1
    rw [this, a2] at h
    simpa using h
   rw [Bool.or_eq_false_iff] at hin
   have e2 := emp_iff under
   rw [hin.1] at e2
   have a3 : Op.bytesLess key.toList under.toList = false := hin.2
   go_enter func184, ntmps184
   go_wp2_with fail
   go_ret
   exact ⟨rfl, by rw [hga] at hb ⊢; exact hb⟩
theorem ins_yes {over under key : ByteArray} (h : insW over under key = true) : Op.bytesLess key.toList over.toList = false /\ (key.toList == over.toList) = false /\ (under.toList.isEmpty = true \/ (under.toList.isEmpty = false /\ Op.bytesLess key.toList under.toList = true)) := by
 unfold insW at h
 rw [Bool.and_eq_true, lessB_tri over key] at h
 obtain ⟨h1, h2⟩ := h
 have h1' : (lessB key over || (key.toList == over.toList)) = false := by simpa using h1
 rw [Bool.or_eq_false_iff] at h1'
 refine ⟨h1'.1, h1'.2, ?_⟩
 rw [emp_iff]
 cases hu : emp under with
 | true => exact .inl rfl
 | false => rw [hu, Bool.false_or] at h2; exact .inr ⟨rfl, h2⟩
theorem fits_top (over under key : ByteArray) (w : World) (h : insW over under key = true) : Calls prog 184 #[.agg #[.string over, .string under, .pointer none], .agg (rkL key).toArray] w fun e w' => e = .returned (.bool true) /\ Below w.heap.size w w' := by
 obtain ⟨W, hW⟩ : ∃ W, (w.alloc (.cells #[.string over, .string under, .pointer none] 164)).alloc (.cells (rkL key).toArray 131) = W := ⟨_, rfl⟩
 have hb : Below w.heap.size w W := by rw [<- hW]; exact ((Below.refl _ _).alloc (Nat.le_refl _) _).alloc (by simp) _
 have n0 : W.heap[w.heap.size]? = some (.cells #[.string over, .string under, .pointer none] 164) := by rw [<- hW, Below.heap_alloc _ _ _ (by simp)]; exact heap_alloc_new w _
 have n1 : W.heap[w.heap.size + 1]? = some (.cells (rkL key).toArray 131) := by
  have := heap_alloc_new (w.alloc (.cells #[.string over, .string under, .pointer none] 164)) (.cells (rkL key).toArray 131)
  rw [<- hW]; simpa using this
 have ca : W.cell? ⟨w.heap.size, 0, none⟩ = some (.string over) := ZC n0 0
 have cc : W.cell? ⟨w.heap.size, 1, none⟩ = some (.string under) := ZC n0 1
 have cd : W.cell? ⟨w.heap.size, 2, none⟩ = some (.pointer none) := ZC n0 2
 have cb : W.cell? ⟨w.heap.size + 1, 32, none⟩ = some (.string key) := RKb.c32 n1
 have qn : ∀ W' : World, (binOp .eql 162 (.pointer none) (.pointer none)).run prog W' = .ok (.bool true) W' := fun W' => by rw [ptr_eqlR none none W' (.inl rfl) (.inl rfl)]; rfl
 generalize (rkL key).toArray = cs at hW n1
 obtain ⟨ga, hga⟩ : ∃ ga, w.heap.size = ga := ⟨_, rfl⟩
 rw [hga] at ca cb cc cd
 obtain ⟨a1, a2, ha⟩ := ins_yes h
 clear h
 rcases ha with e2 | ⟨e2, a3⟩
 all_goals
  go_enter func184, ntmps184
  go_upto_region 3 with fail
  go_quiet (fail)
  go_wp2_with fail
  go_ret
  exact ⟨rfl, by rw [hga] at hb ⊢; exact ⟨hb.os, hb.tape, hb.output, hb.size, hb.block⟩⟩
theorem fits_par (over under key pk : ByteArray) (g : Nat) (w : World) (h : insW over under key = true) (hg : RKb g pk w) : Calls prog 184 #[.agg #[.string over, .string under, .pointer (some ⟨g, 0, none⟩)], .agg (rkL key).toArray] w fun e w' => e = .returned (.bool (hgW pk key)) /\ Below w.heap.size w w' := by
 obtain ⟨W, hW⟩ : ∃ W, (w.alloc (.cells #[.string over, .string under, .pointer (some ⟨g, 0, none⟩)] 164)).alloc (.cells (rkL key).toArray 131) = W := ⟨_, rfl⟩
 have hb : Below w.heap.size w W := by rw [<- hW]; exact ((Below.refl _ _).alloc (Nat.le_refl _) _).alloc (by simp) _
 have n0 : W.heap[w.heap.size]? = some (.cells #[.string over, .string under, .pointer (some ⟨g, 0, none⟩)] 164) := by rw [<- hW, Below.heap_alloc _ _ _ (by simp)]; exact heap_alloc_new w _
 have n1 : RKb (w.heap.size + 1) key W := by
  have := heap_alloc_new (w.alloc (.cells #[.string over, .string under, .pointer (some ⟨g, 0, none⟩)] 164)) (.cells (rkL key).toArray 131)
  unfold RKb
  rw [<- hW]; simpa using this
 have hg1 : RKb g pk W := (hb.block g (Array.getElem?_eq_some_iff.1 hg).1).trans hg
 have ca : W.cell? ⟨w.heap.size, 0, none⟩ = some (.string over) := ZC n0 0
 have cc : W.cell? ⟨w.heap.size, 1, none⟩ = some (.string under) := ZC n0 1
 have cd : W.cell? ⟨w.heap.size, 2, none⟩ = some (.pointer (some ⟨g, 0, none⟩)) := ZC n0 2
 have cb : W.cell? ⟨w.heap.size + 1, 32, none⟩ = some (.string key) := RKb.c32 n1
 have qn : ∀ W' : World, RKb g pk W' -> (binOp .eql 162 (.pointer (some ⟨g, 0, none⟩)) (.pointer none)).run prog W' = .ok (.bool false) W' := fun W' hW' => by rw [ptr_eqlR _ none W' (.inr ⟨g, _, _, rfl, hW'⟩) (.inl rfl)]; rfl
 have r1 := hg1.range
 have r2 := n1.range
 have HAB : Hid (∀ w', Calls prog 142 #[.agg (rkL pk).toArray, .agg (rkL key).toArray] w' fun e w'' => e = .returned (.bool (hgW pk key)) /\ Below w'.heap.size w' w'') := fun w' => above_any _ _ (by unfold sha; rw [outTo_length]) (by unfold sha; rw [outTo_length]) pk key w'
 obtain ⟨ga, hga⟩ : ∃ ga, w.heap.size = ga := ⟨_, rfl⟩
 rw [hga] at ca cb cc cd r2
 obtain ⟨a1, a2, ha⟩ := ins_yes h
 clear h
 have hq := qn W hg1
 have HS : Hid (∀ W', Below W.heap.size W W' -> W'.rangeAt g 0 (rkL pk) /\ W'.rangeAt (ga + 1) 0 (rkL key) /\ W'.cell? ⟨ga, 2, none⟩ = some (.pointer (some ⟨g, 0, none⟩)) /\ (binOp .eql 162 (.pointer (some ⟨g, 0, none⟩)) (.pointer none)).run prog W' = .ok (.bool false) W') := fun W' hW' => by
  have x1 : RKb g pk W' := (hW'.block g (Array.getElem?_eq_some_iff.1 hg1).1).trans hg1
  rw [hga] at n1 n0
  have x2 : RKb (ga + 1) key W' := (hW'.block (ga + 1) (Array.getElem?_eq_some_iff.1 n1).1).trans n1
  have x3 := (hW'.block ga (Array.getElem?_eq_some_iff.1 n0).1).trans n0
  exact ⟨x1.range, x2.range, ZC x3 2, qn W' x1⟩
 clear qn hq
 rcases ha with e2 | ⟨e2, a3⟩
 · go_enter func184, ntmps184
   go_upto_region 3 with fail
   refine wp_region_held_drew (S := fun W' => W'.rangeAt g 0 (rkL pk) /\ W'.rangeAt (ga + 1) 0 (rkL key) /\ W'.cell? ⟨ga, 2, none⟩ = some (.pointer (some ⟨g, 0, none⟩)) /\ (binOp .eql 162 (.pointer (some ⟨g, 0, none⟩)) (.pointer none)).run prog W' = .ok (.bool false) W') (by kernel_rfl) (HS.out _ (Below.refl _ _).drew) (fun hHeld => ?_)
   refine tkI 0 ?_
   simp only [Act.put, zq]
   refine tkI 1 ?_
   simp only [Act.put, zq]
   refine tkI 2 ?_
   simp only [Act.put, zq]
   refine tkI 3 ?_
   simp only [Act.put, zq]
   refine tkI 4 ?_
   simp only [Act.put, zq]
   refine tkI 5 ?_
   simp only [Act.put, zq]
   refine tkI 6 ?_
   simp only [Act.put, zq]
   refine tkH (i := 7) (v := _) rfl (yieldsIf_load_mid (by rfl) _ _ rfl _ _ rfl (rkL pk) _ (fun w h => h.1) Tryz.underlying131 rfl (by rw [rkL_len]; exact size125)) ?_
   simp only [Act.put, zq]
   refine tkH (i := 8) (v := _) rfl (yieldsIf_load_mid (by rfl) _ _ rfl _ _ rfl (rkL key) _ (fun w h => h.2.1) Tryz.underlying131 rfl (by rw [rkL_len]; exact size125)) ?_
   simp only [Act.put, zq]
   refine rdH 9 (fun K hK => ?_)
   go_simp
   refine (HAB.out _).mono ?_
   rintro e w1 ⟨rfl, hb1'⟩
   have hbw1 : Below W.heap.size W w1 := ((Below.refl W.heap.size W).drew).trans hb1'
   refine hK.out _ _ (HS.out _ hbw1) (fun hHeld => ?_)
   clear hK K
   refine tkI 10 ?_
   simp only [Act.put, zq]
   refine tkI 11 ?_
   simp only [Act.put, zq]
   refine wpAnyH_done (by kernel_rfl) ?_ _
   go_wp2_with fail
   go_ret
   exact ⟨rfl, hb.trans (hbw1.mono hb.size)⟩
 · go_enter func184, ntmps184
   go_upto_region 3 with fail
   refine wp_region_held_drew (S := fun W' => W'.rangeAt g 0 (rkL pk) /\ W'.rangeAt (ga + 1) 0 (rkL key) /\ W'.cell? ⟨ga, 2, none⟩ = some (.pointer (some ⟨g, 0, none⟩)) /\ (binOp .eql 162 (.pointer (some ⟨g, 0, none⟩)) (.pointer none)).run prog W' = .ok (.bool false) W') (by kernel_rfl) (HS.out _ (Below.refl _ _).drew) (fun hHeld => ?_)
   refine tkI 0 ?_
   simp only [Act.put, zq]
   refine tkI 1 ?_
   simp only [Act.put, zq]
   refine tkI 2 ?_
   simp only [Act.put, zq]
   refine tkI 3 ?_
   simp only [Act.put, zq]
   refine tkI 4 ?_
   simp only [Act.put, zq]
   refine tkI 5 ?_
   simp only [Act.put, zq]
   refine tkI 6 ?_
   simp only [Act.put, zq]
   refine tkH (i := 7) (v := _) rfl (yieldsIf_load_mid (by rfl) _ _ rfl _ _ rfl (rkL pk) _ (fun w h => h.1) Tryz.underlying131 rfl (by rw [rkL_len]; exact size125)) ?_
   simp only [Act.put, zq]
   refine tkH (i := 8) (v := _) rfl (yieldsIf_load_mid (by rfl) _ _ rfl _ _ rfl (rkL key) _ (fun w h => h.2.1) Tryz.underlying131 rfl (by rw [rkL_len]; exact size125)) ?_
   simp only [Act.put, zq]
   refine rdH 9 (fun K hK => ?_)
   go_simp
   refine (HAB.out _).mono ?_
   rintro e w1 ⟨rfl, hb1'⟩
   have hbw1 : Below W.heap.size W w1 := ((Below.refl W.heap.size W).drew).trans hb1'
   refine hK.out _ _ (HS.out _ hbw1) (fun hHeld => ?_)
   clear hK K
   refine tkI 10 ?_
   simp only [Act.put, zq]
   refine tkI 11 ?_
   simp only [Act.put, zq]
   refine wpAnyH_done (by kernel_rfl) ?_ _
   go_wp2_with fail
   go_ret
   exact ⟨rfl, hb.trans (hbw1.mono hb.size)⟩
theorem fits_any (over under key pk : ByteArray) (par : Option Addr) (w : World) (hp : ParAt par pk w) : Calls prog 184 #[.agg #[.string over, .string under, .pointer par], .agg (rkL key).toArray] w fun e w' => e = .returned (.bool (insW over under key && parW hgW pk key)) /\ Below w.heap.size w w' := by
 cases h : insW over under key with
 | false => exact fits_no over under key par w h
 | true =>
  rw [Bool.true_and]
  unfold parW
  rcases hp with ⟨rfl, he⟩ | ⟨he, g, rfl, hg⟩
  · rw [he]; exact fits_top over under key w h
  · rw [he]; exact fits_par over under key pk g w h hg
theorem Row.setHead {w : World} {base g n cap : Nat} {xs : List Value} (h : Row w base g n cap xs) (ys : List Value) (ho : ys.length <= n) : Row (w.setCells g 0 ys) base g n cap (ys ++ xs.drop ys.length) := by
 have hin : ∀ j (hj : j < ys.length), (w.setCells g 0 ys).cell? ⟨g, 0 + j, none⟩ = some ys[j] := World.cell?_setCells_in g ys 0 w (fun j hj => h.room (0 + j) (by have := h.le; omega))
 have hout : ∀ j, j < 0 \/ 0 + ys.length <= j -> (w.setCells g 0 ys).cell? ⟨g, j, none⟩ = w.cell? ⟨g, j, none⟩ := fun j hj => World.cell?_setCells_out g ys 0 w ⟨g, j, none⟩ (fun _ _ => hj)
 have hgr := grownBy_setCells g ys 0 w
 have hl := h.len
 refine ⟨h.ge, Nat.lt_of_lt_of_le h.lt hgr.size, by rw [List.length_append, List.length_drop]; omega, h.le, ?_, ?_, ?_⟩
 · intro j hj
   rcases Nat.lt_or_ge j ys.length with h1 | h1
   · have := hin j h1
     rw [Nat.zero_add] at this
     rw [this, List.getElem?_append_left h1, List.getElem?_eq_getElem h1]
   · rw [hout j (.inr (by omega)), h.cell j hj, List.getElem?_append_right h1, List.getElem?_drop, show ys.length + (j - ys.length) = j by omega]
 · intro j hj
   rcases Nat.lt_or_ge j ys.length with h1 | h1
   · have := hin j h1
     rw [Nat.zero_add] at this
     rw [this]; rfl
   · rw [hout j (.inr (by omega))]; exact h.room j hj
 · intro j hj
   rw [World.frozen?_setCells]; exact h.free j hj
theorem info5m : (prog.info? 5).map (·.size) = some 1 := by kernel_rfl
theorem run_copy_text {w : World} {base g n cap : Nat} {xs : List Value} (h : Row w base g n cap xs) (s : ByteArray) (hs : s.size <= n) :
 (Builtin.copy_ #[22, 9] 3 #[.slice (some ⟨g, 0, none⟩) n n, .string s]).run prog w = .ok (goInt s.size) (w.setCells g 0 (s.data.toList.map B)) := by
 have hlen : (s.data.toList.map B).length = s.size := by rw [List.length_map]; rfl
 have hst := run_storeCells_cells (P := prog) g 0 (s.data.toList.map B) 0 w (fun j hj => by have := h.room j (by have := h.le; omega); simpa using this) (fun j hj => by have := h.free j (by have := h.le; omega); simpa using this) (fun v hv => by obtain ⟨x, _, rfl⟩ := List.mem_map.1 hv; rfl)
 simp only [Nat.add_zero] at hst
 have hmin : Nat.min s.size n = s.size := Nat.min_eq_left hs
 have htk : List.take s.size (List.map (fun b : UInt8 => Value.int IntKind.u8 (b.toNat : Int)) s.data.toList) = s.data.toList.map B := by
  rw [List.take_of_length_le (by rw [List.length_map]; exact Nat.le_refl _)]; rfl
 obtain ⟨i, hi, hsz⟩ : ∃ i, prog.info? 5 = some i /\ i.size = 1 := by
  have := info5m
  cases hh : prog.info? 5 with
  | none => rw [hh] at this; cases this
  | some i => rw [hh] at this; exact ⟨i, rfl, Option.some.inj this⟩
 simp [Builtin.copy_, run_underlying Tryz.underlying22, sizeOf, typeInfo, hi, Builtin.lenOf, hmin, Builtin.firstCells, htk, hst]
theorem find_any (wd : Nat) (r : Nat) (F : List UInt8 -> Option Int) (hash : ByteArray) (w : World) (h : MapF F r w) (h1 : wd <= 32) (h2 : hash.size = wd) :
 Calls prog 185 #[.agg #[.int .i64 (wd : Int), .map (some r)], .string hash] w fun e w' => e = .returned (.tuple #[.int .i64 ((F (cutW wd hash.data.toList)).getD 0), .bool (F (cutW wd hash.data.toList)).isSome]) /\ Below w.heap.size w w' := by
 have z1 : ((hash.size : Int) != (wd : Int)) = false := by rw [h2]; simp
 have hsz : hash.size <= 32 := by omega
 have hhl : hash.data.toList.length = hash.size := rfl
 have hcut : hash.data.toList.map B ++ (zeros32b.map B).drop (hash.data.toList.map B).length = (cutW wd hash.data.toList).map B := by
  unfold cutW zeros32b
  rw [List.map_append, List.take_of_length_le (by omega), List.length_map, hhl, h2, List.map_replicate, List.map_replicate, List.drop_replicate]
 have hX : (cutW wd hash.data.toList).length = 32 := by unfold cutW; rw [List.length_append, List.length_take, List.length_replicate]; omega
 obtain ⟨X, hXX⟩ : ∃ X, cutW wd hash.data.toList = X := ⟨_, rfl⟩
 rw [hXX] at hcut hX ⊢
 clear h2 hXX
 have hrl : r < w.heap.size := by
  obtain ⟨es, cl, hg, _, _⟩ := h.is
  exact (Array.getElem?_eq_some_iff.1 hg).1
 go_enter func185, ntmps185
 obtain ⟨ga, hga⟩ : ∃ ga, w.heap.size = ga := ⟨_, rfl⟩
 go_wp2_with (first | (refine wpList_alloc_row _ rfl (some 6) rfl 116 116 rfl (zeros32b.map B) alloc43 ?_; intro g2 w2 hr2 hb2))
 have hr2' : Row w2 (ga + 1) g2 32 32 (zeros32b.map B) := by
  have := hr2
  rw [World.size_alloc, hga] at this
  exact this
 have hcp := run_copy_text hr2' hash hsz
 have hR3 := Row.setHead hr2' (hash.data.toList.map B) (by rw [List.length_map]; omega)
 rw [hcut] at hR3
 have hg3 := grownBy_setCells g2 (hash.data.toList.map B) 0 w2
 obtain ⟨w3, hw3⟩ : ∃ w3, w2.setCells g2 0 (hash.data.toList.map B) = w3 := ⟨_, rfl⟩
 rw [hw3] at hcp hR3 hg3
 clear hw3
 have hge := hr2'.ge
 have hb2' : Below (ga + 1) (w.alloc (.cells #[.int .i64 (wd : Int), .map (some r)] 176)) w2 := by
  have := hb2
  rw [World.size_alloc, hga] at this
  exact this
 have hn2 : w2.heap[ga]? = some (.cells #[.int .i64 (wd : Int), .map (some r)] 176) := (hb2'.block ga (by omega)).trans (by rw [<- hga]; exact heap_alloc_new w _)
 have hne : ga ≠ g2 := by omega
 have hn3 : w3.heap[ga]? = some (.cells #[.int .i64 (wd : Int), .map (some r)] 176) := (hg3.block ga (Array.getElem?_eq_some_iff.1 hn2).1 (fun e => hne (Option.some.inj e))).trans hn2
 have hB2 : Below w.heap.size w w2 := ((Below.refl _ w).alloc (Nat.le_refl _) _).trans (hb2'.mono (by omega))
 have hM3 : MapF F r w3 := (h.below hB2).kept hg3 (by omega)
 have hB3 : Below w.heap.size w w3 := hB2.trans (below_of_grown hg3 (by omega) hB2.size)
 have hlk := run_look key43 Tryz.underlying174 zeroV3 hM3 X hX
 unfold K32 at hlk
 have d0 := ZC hn3 0
 have d1 := ZC hn3 1
 clear hb2 hb2' hr2 hr2' hB2 hn2 hM3 h
 obtain ⟨fx, hfx⟩ : ∃ fx, F X = fx := ⟨_, rfl⟩
 rw [hfx] at hlk
 have HF : Hid (F X = fx) := hfx
 clear hfx
 rw [hcp]
 clear hcp
 go_wp2_with (first | (refine wpList_load_whole _ rfl 116 (.tmp 6) rfl (ga + 1) g2 32 32 (X.map B) 5 rfl hR3 Tryz.underlying116 size43 ?_))
 go_ret2
 rw [HF.out]
 exact ⟨rfl, hB3⟩
structure SArg (a : Option Addr) (ss : List ByteArray) (w : World) : Prop where
 le : ss.length <= 1048576
 sz : ∀ j, (ss.getD j ⟨#[]⟩).size <= 1048576
 at_ : 0 < ss.length -> ∃ b off : Nat, a = some ⟨b, off, none⟩ /\ b < w.heap.size /\ ∀ j, j < ss.length -> w.cell? ⟨b, off + j, none⟩ = some (.string (ss.getD j ⟨#[]⟩))
theorem SArg.below {a : Option Addr} {ss : List ByteArray} {w w' : World} (h : SArg a ss w) (hb : Below w.heap.size w w') : SArg a ss w' := by
 refine ⟨h.le, h.sz, fun hn => ?_⟩
 obtain ⟨b, off, ha, hlt, hc⟩ := h.at_ hn
 exact ⟨b, off, ha, Nat.lt_of_lt_of_le hlt hb.size, fun j hj => (hb.cell hlt).trans (hc j hj)⟩
def keyW (wd : Nat) (s : ByteArray) : List UInt8 := cutW wd (sha (78 :: s.data.toList))
def placesF (wd : Nat) (ss : List ByteArray) : Nat -> List UInt8 -> Option Int
 | 0 => fun _ => none
 | k + 1 => addF (placesF wd ss k) (keyW wd (ss.getD k ⟨#[]⟩)) (k : Int)
def firstI (p : Nat -> Bool) : Nat -> Option Nat
 | 0 => none
 | k + 1 => match firstI p k with
  | some i => some i
  | none => if p k then some k else none
theorem firstI_lt {p : Nat -> Bool} {k i : Nat} (h : firstI p k = some i) : i < k := by
 induction k with
 | zero => cases h
 | succ k ih =>
  rw [firstI] at h
  cases hk : firstI p k with
  | some j => rw [hk] at h; simp only [Option.some.injEq] at h; subst h; have := ih hk; omega
  | none =>
   rw [hk] at h
   simp only at h
   split at h
   · simp only [Option.some.injEq] at h; omega
   · cases h
theorem placesF_first (wd : Nat) (ss : List ByteArray) (X : List UInt8) (k : Nat) : placesF wd ss k X = (firstI (fun i => decide (keyW wd (ss.getD i ⟨#[]⟩) = X)) k).map fun i => (i : Int) := by
 induction k with
 | zero => rfl
 | succ k ih =>
  rw [placesF, addF, firstI]
  obtain ⟨Y, hY⟩ : ∃ Y, keyW wd (ss.getD k ⟨#[]⟩) = Y := ⟨_, rfl⟩
  rw [hY]
  by_cases hn : placesF wd ss k Y = none
  · rw [if_pos hn]
    by_cases hXY : X = Y
    · subst hXY
      rw [if_pos rfl]
      rw [ih] at hn
      cases hf : firstI (fun i => decide (keyW wd (ss.getD i ⟨#[]⟩) = X)) k with
      | some j => rw [hf] at hn; cases hn
      | none => simp
    · rw [if_neg hXY, ih]
      cases hf : firstI (fun i => decide (keyW wd (ss.getD i ⟨#[]⟩) = X)) k with
      | some j => rfl
      | none => simp [Ne.symm hXY]
  · rw [if_neg hn, ih]
    cases hf : firstI (fun i => decide (keyW wd (ss.getD i ⟨#[]⟩) = X)) k with
    | some j => rfl
    | none =>
     simp only
     by_cases hXY : Y = X
     · subst hXY
       rw [ih, hf] at hn
       exact absurd rfl hn
     · simp [hXY]
def poolOk (n : Int) (m : Nat) : Bool := decide (1 <= n /\ n <= 32 /\ m <= 20000)
theorem validPool_any (n : Int) (a : Option Addr) (m c : Nat) (w : World) (_hm : m <= 1048576) :
 Calls prog 68 #[.agg #[.int .i64 n, .slice a m c]] w fun e w' => e = .returned (.bool (poolOk n m)) /\ Below w.heap.size w w' := by
 have hfin : Below w.heap.size w (w.alloc (.cells #[.int .i64 n, .slice a m c] 37)) := (Below.refl _ _).alloc (Nat.le_refl _) _
 by_cases c1 : 1 <= n
 · by_cases c2 : n <= 32
   · have hr : poolOk n m = decide ((m : Int) <= 20000) := by
      unfold poolOk
      by_cases c3 : m <= 20000
      · rw [decide_eq_true (by omega), decide_eq_true (by omega)]
      · rw [decide_eq_false (by omega), decide_eq_false (by omega)]
     rw [hr]
     clear hr
     go_enter func68, ntmps68
     go_wp2_with (first | go_in)
     go_ret
     exact ⟨rfl, hfin⟩
   · have hr : poolOk n m = false := by unfold poolOk; rw [decide_eq_false (by omega)]
     rw [hr]
     clear hr
     go_enter func68, ntmps68
     go_wp2_with (first | go_in)
     go_ret
     exact ⟨rfl, hfin⟩
 · have hr : poolOk n m = false := by unfold poolOk; rw [decide_eq_false (by omega)]
   rw [hr]
   clear hr
   go_enter func68, ntmps68
   go_wp2_with (first | go_in)
   go_ret
   exact ⟨rfl, hfin⟩
structure Dec where
 k : ByteArray -> ByteArray
 v : ByteArray -> ByteArray
 l : ByteArray -> ByteArray
 r : ByteArray -> ByteArray
 ok : ByteArray -> Bool
def DecSaid (f : FuncId) (wd : Nat) (D : Dec) : Prop := ∀ (s : ByteArray) (w : World), s.size <= 1048576 -> Calls prog f #[.string s, .int .i64 (wd : Int)] w fun e w' => e = .returned (.tuple #[.agg #[.string (D.k s), .string (D.v s), .string (D.l s), .string (D.r s)], .bool (D.ok s)]) /\ Below w.heap.size w w'
def foundR (D : Dec) (ss : List ByteArray) : Option Nat -> (ByteArray × ByteArray × ByteArray × ByteArray) × Int
 | none => ((⟨#[]⟩, ⟨#[]⟩, ⟨#[]⟩, ⟨#[]⟩), 2)
 | some i => if D.ok (ss.getD i ⟨#[]⟩) then ((D.k (ss.getD i ⟨#[]⟩), D.v (ss.getD i ⟨#[]⟩), D.l (ss.getD i ⟨#[]⟩), D.r (ss.getD i ⟨#[]⟩)), 0) else ((⟨#[]⟩, ⟨#[]⟩, ⟨#[]⟩, ⟨#[]⟩), 3)
def nodeT (x : (ByteArray × ByteArray × ByteArray × ByteArray) × Int) : Value := .tuple #[.agg #[.string x.1.1, .string x.1.2.1, .string x.1.2.2.1, .string x.1.2.2.2], .int .i64 x.2]
def hitB (wd : Nat) (ss : List ByteArray) (hash : ByteArray) (i : Nat) : Bool := decide ((sha (78 :: (ss.getD i ⟨#[]⟩).data.toList)).take wd = hash.data.toList)
theorem key_hit (wd : Nat) (ss : List ByteArray) (hash : ByteArray) (_h1 : wd <= 32) (h2 : hash.size = wd) (i : Nat) : decide (keyW wd (ss.getD i ⟨#[]⟩) = cutW wd hash.data.toList) = hitB wd ss hash i := by
 unfold keyW cutW hitB
 have hl : hash.data.toList.length = wd := h2
 rw [List.take_of_length_le (l := hash.data.toList) (by omega)]
 congr 1
 rw [List.append_cancel_right_eq]
theorem own2_cells {w : World} {base g n : Nat} {v : Value} {xs : List Value} (h : w.ownsRow base 34 2 v n xs) (hv : v.ownBlock = some g) : base <= g /\ g < w.heap.size /\ ∃ cur, w.heap[g]? = some (.cells cur 34 (0, 0)) := by
 rcases h.2 with ⟨rfl, _⟩ | ⟨g', cap, cur, rfl, hb, hg, _⟩
 · cases hv
 · obtain rfl : g' = g := Option.some.inj hv
   exact ⟨hb, (Array.getElem?_eq_some_iff.1 hg).1, cur, hg⟩
theorem own2_kept {w w' : World} {base n : Nat} {v : Value} {xs : List Value} (h : w.ownsRow base 34 2 v n xs) (hk : ∀ g, v.ownBlock = some g -> g < w.heap.size -> w'.heap[g]? = w.heap[g]?) : w'.ownsRow base 34 2 v n xs := by
 refine ⟨h.1, ?_⟩
 rcases h.2 with ⟨h1, h2⟩ | ⟨g, cap, cur, hv, hb, hg, rest⟩
 · exact .inl ⟨h1, h2⟩
 · exact .inr ⟨g, cap, cur, hv, hb, (hk g (by rw [hv]; rfl) (Array.getElem?_eq_some_iff.1 hg).1).trans hg, rest⟩
theorem own2_mono {w : World} {base base' n : Nat} {v : Value} {xs : List Value} (h : w.ownsRow base 34 2 v n xs) (hb : base' <= base) : w.ownsRow base' 34 2 v n xs := by
 refine ⟨h.1, ?_⟩
 rcases h.2 with ⟨h1, h2⟩ | ⟨g, cap, cur, hv, hg, rest⟩
 · exact .inl ⟨h1, h2⟩
 · exact .inr ⟨g, cap, cur, hv, Nat.le_trans hb hg, rest⟩
section
variable {w : World} {g8 g12 g16 gz g17 : Nat} {wd : Nat} {a : Option Addr} {n c : Nat} {over under : ByteArray} {cnt : Nat} {W W' : World}
end
theorem own2_nil {w : World} {base gz : Nat} (hb : base <= gz) (h : w.heap[gz]? = some (.cells #[] 34)) : w.ownsRow base 34 2 (.slice (some ⟨gz, 0, none⟩) 0 0) 0 [] :=
 ⟨rfl, .inr ⟨gz, 0, #[], rfl, hb, h, by simp⟩⟩
theorem drop_getD (ps : List PairT) (i : Nat) (h : i < ps.length) : ps.drop i = ps.getD i noPair :: ps.drop (i + 1) := by
 rw [List.drop_eq_getElem_cons h]
 congr 1
 simp [List.getD_eq_getElem?_getD, List.getElem?_eq_getElem h]
theorem ba_eq {a b : ByteArray} : (a.toList == b.toList) = decide (a = b) := by
 by_cases e : a = b
 · subst e; simp
 · rw [decide_eq_false e, beq_eq_false_iff_ne]
   intro h
   rw [ByteArray.toList_eq, ByteArray.toList_eq] at h
   exact e (ByteArray.ext (Array.toList_inj.1 h))
structure OwnP (w : World) (xs : List PairT) (a : Option Addr) (m c : Nat) (W : World) : Prop where
 own : W.ownsRow w.heap.size 34 2 (.slice a m c) m (flatP xs)
 bel : Below w.heap.size w W
 len : xs.length = m
theorem OwnP.below {w W W' : World} {xs : List PairT} {a : Option Addr} {m c : Nat} (h : OwnP w xs a m c W) (hb : Below W.heap.size W W') : OwnP w xs a m c W' :=
 ⟨own2_kept h.own (fun q _ hq => hb.block q hq), h.bel.trans (hb.mono h.bel.size), h.len⟩
theorem OwnP.more {w W W' : World} {xs : List PairT} {a : Option Addr} {m c m' g cap : Nat} {y : PairT} {o : Obj} (h : OwnP w xs a m c W) (hown : W'.ownsRow w.heap.size 34 2 (.slice (some ⟨g, 0, none⟩) m' cap) m' (flatP xs ++ [.string y.1, .string y.2])) (hgrow : (W.alloc o).grownBy W' (Value.slice a m c).ownBlock) (hm : m' = m + 1) : OwnP w (xs ++ [y]) (some ⟨g, 0, none⟩) m' cap W' := by
 have ha := h.below ((Below.refl W.heap.size W).alloc (Nat.le_refl _) o)
 refine ⟨by rw [flatP_app]; exact hown, ha.bel.grown hgrow ha.bel.size (fun q hq => (own2_cells ha.own hq).1), by rw [List.length_append, h.len, hm]; rfl⟩
def PairsAt (xs : List PairT) (w : World) (e : Ending) (w' : World) : Prop := ∃ a c, e = .returned (.slice a xs.length c) /\ OwnP w xs a xs.length c w'
theorem take_getD (ps : List PairT) (i : Nat) (h : i < ps.length) : ps.take (i + 1) = ps.take i ++ [ps.getD i noPair] := by
 rw [List.take_add_one, List.getElem?_eq_getElem h]
 simp [List.getD_eq_getElem?_getD, List.getElem?_eq_getElem h]
theorem wout_app (a b : List PairT) (k : ByteArray) : wout (a ++ b) k = wout a k ++ wout b k := List.filter_append ..
theorem wout_le (ps : List PairT) (k : ByteArray) : (wout ps k).length <= ps.length := List.length_filter_le ..
theorem OwnP.nil (w : World) : OwnP w [] (some ⟨w.heap.size, 0, none⟩) 0 0 (w.alloc (.cells #[] 34)) :=
 ⟨own2_nil (Nat.le_refl _) (heap_alloc_new w _), (Below.refl _ _).alloc (Nat.le_refl _) _, rfl⟩
theorem without_any (a : Option Addr) (ps : List PairT) (c : Nat) (key : ByteArray) (w : World) (h : PArg a ps w) : Calls prog 94 #[.slice a ps.length c, .string key] w (PairsAt (wout ps key) w) := by
 obtain ⟨i0, hi0, hz0, hz1, hz2⟩ := info_parts2 info37
 have hn := h.le
 obtain ⟨N, hN⟩ : ∃ N, ps.length = N := ⟨_, rfl⟩
 rw [hN] at hn ⊢
 have hNl : Hid (ps.length = N) := hN
 clear hN
 have hO := OwnP.nil w
 go_enter func94, ntmps94
 go_wp2_with fail
 go_loopw [5, 6] (fun t5 t6 wr => ∃ k : Nat, k <= N /\ t6 = .int .i64 (k : Int) /\ ∃ (a' : Option Addr) (m d' : Nat), t5 = .slice a' m d' /\ OwnP w (wout (ps.take k) key) a' m d' wr) (fun _ t6 _ => N - (intOf t6).toNat)
 case atStart => exact ⟨0, Nat.zero_le _, rfl, _, _, _, rfl, hO⟩
 case round =>
  obtain ⟨k, hk, rfl, a', m, d', rfl, hW⟩ := hrel
  by_cases hlt : k < N
  · have z1 : decide ((k : Int) < (N : Int)) = true := by simp; omega
    have hx0 : (0 : Int) <= (k : Int) := Int.natCast_nonneg _
    have hx1 : (k : Int) < (N : Int) := by omega
    obtain ⟨b1, off1, rfl, hbl1, hc⟩ := (h.below hW.bel).at_ (by rw [hNl.out]; omega)
    obtain ⟨hc1, hc2⟩ := hc k (by rw [hNl.out]; exact hlt)
    have hml : m <= 1048576 := by have := hW.len; have := wout_le (ps.take k) key; rw [List.length_take] at this; omega
    have htk : Hid (wout (ps.take (k + 1)) key = wout (ps.take k) key ++ wout [ps.getD k noPair] key) := by
     show _ = _
     rw [take_getD ps k (by rw [hNl.out]; exact hlt), wout_app]
    generalize ps.getD k noPair = p at hc1 hc2 htk
    obtain ⟨pk, pv⟩ := p
    simp only at hc1 hc2
    have hbs := hW.bel.size
    by_cases e : pk = key
    · have z2 : (pk.toList == key.toList) = true := by rw [ba_eq, decide_eq_true e]
      have hf : Hid (wout [(pk, pv)] key = []) := by show _ = _; simp [wout, e]
      clear e hc
      go_wp2_with fail
      go_roundw
      case rel => exact ⟨k + 1, hlt, by go_num, _, _, _, rfl, by rw [htk.out, hf.out, List.append_nil]; exact hW⟩
      case measure => simp [intOf]; omega
    · have z2 : (pk.toList == key.toList) = false := by rw [ba_eq, decide_eq_false e]
      have hf : Hid (wout [(pk, pv)] key = [(pk, pv)]) := by show _ = _; simp [wout, e]
      have own := hW.own
      clear e hc
      go_wp2_with (at_builtin; refine wpList_append_lies _ rfl (.tmp 21) (.tmp 26) 23 rfl w.heap.size 34 i0 (.agg #[.string ⟨#[]⟩, .string ⟨#[]⟩]) 2 32 Tryz.underlying23 hi0 hz0 hz1 hz2 rfl (by decide) (.slice a' m d') m (flatP (wout (ps.take k) key)) rfl (own.alloc _) ⟨wr.heap.size, 0, none⟩ 1 1 [.string pk, .string pv] rfl rfl (World.news_of_block (heap_alloc_new wr _)) (by simp [Value.oneCell']) (by decide) (by unfold maxLen; omega) (by omega) (by simp; omega) (wr.heap.size + 1) (by simp) ?_; intro g5 c5 w5 hown5 hgrow5 hat5 hlt5)
      go_roundw
      case rel => exact ⟨k + 1, hlt, by go_num, _, _, _, rfl, by rw [htk.out, hf.out]; exact hW.more hown5 hgrow5 rfl⟩
      case measure => simp [intOf]; omega
  · obtain rfl : k = N := by omega
    have z1 : decide ((k : Int) < (k : Int)) = false := by simp
    rw [List.take_of_length_le (by rw [hNl.out]; exact Nat.le_refl _)] at hW
    have hl := hW.len
    subst hl
    go_wp2_with fail
    go_ret
    exact ⟨_, _, rfl, hW⟩
def NBk (g : Nat) (k v l r : ByteArray) (w : World) : Prop := w.heap[g]? = some (.cells #[.string k, .string v, .string l, .string r] 128)
theorem NBk.below {g : Nat} {k v l r : ByteArray} {w w' : World} (h : NBk g k v l r w) (hb : Below w.heap.size w w') : NBk g k v l r w' := (hb.block g (Array.getElem?_eq_some_iff.1 h).1).trans h
theorem NBk.all {g : Nat} {k v l r : ByteArray} {w : World} (h : NBk g k v l r w) (x y z u : ByteArray) : NBk g x y z u ((((w.setCell ⟨g, 0, none⟩ (.string x)).setCell ⟨g, 1, none⟩ (.string y)).setCell ⟨g, 2, none⟩ (.string z)).setCell ⟨g, 3, none⟩ (.string u)) :=
 heap_setCell_same _ g 3 _ 128 _ (heap_setCell_same _ g 2 _ 128 _ (heap_setCell_same _ g 1 _ 128 _ (heap_setCell_same _ g 0 _ 128 _ h)))
theorem NBk.fr {g j : Nat} {k v l r : ByteArray} {w : World} (h : NBk g k v l r w) : w.frozen? ⟨g, j, none⟩ = false := by rw [World.frozen?, show w.heap[g]? = _ from h]; rfl
structure NBc (g : Nat) (k v l r : ByteArray) (w : World) : Prop where
 c0 : w.cell? ⟨g, 0, none⟩ = some (.string k)
 c1 : w.cell? ⟨g, 1, none⟩ = some (.string v)
 c2 : w.cell? ⟨g, 2, none⟩ = some (.string l)
 c3 : w.cell? ⟨g, 3, none⟩ = some (.string r)
 f0 : w.frozen? ⟨g, 0, none⟩ = false
 f1 : w.frozen? ⟨g, 1, none⟩ = false
 f2 : w.frozen? ⟨g, 2, none⟩ = false
 f3 : w.frozen? ⟨g, 3, none⟩ = false
theorem NBk.at {g : Nat} {k v l r : ByteArray} {w : World} (h : NBk g k v l r w) : NBc g k v l r w :=
 ⟨ZC h 0, ZC h 1, ZC h 2, ZC h 3, h.fr, h.fr, h.fr, h.fr⟩
theorem retN {fn : Func} {R : Ending -> World -> Prop} {A : Act} {p q : Tmp} {gb : Nat} {k v l r : ByteArray} {c : Int} {W : World} (hres : fn.results = #[.cell p 128, .tmp q]) (hp : A.tmps.getD p undef = .pointer (some ⟨gb, 0, none⟩)) (hq : A.tmps.getD q undef = .int .i64 c) (hd : A.defers = []) (n : NBk gb k v l r W)
 (h : R (.returned (nodeT ((k, v, l, r), c))) W) : bodyPost prog fn R Exit.ret A W := by
 obtain ⟨c0, c1, c2, c3, _, _, _, _⟩ := n.at
 have hp' : A.tmps[p]?.getD undef = .pointer (some ⟨gb, 0, none⟩) := by simpa using hp
 have hq' : A.tmps[q]?.getD undef = .int .i64 c := by simpa using hq
 refine bodyPost_ret (v := nodeT ((k, v, l, r), c)) ?_ hd h
 unfold nodeT
 simp [results, hres, go_sem, asAddr, hp', hq', c0, c1, c2, c3]
section
variable {w : World} {ga gb : Nat} {n : Int} {a : Option Addr} {m c : Nat} {W W' : World}
end
end Go.Proofs.YtfmpjlpakldheaaGreatDoor
