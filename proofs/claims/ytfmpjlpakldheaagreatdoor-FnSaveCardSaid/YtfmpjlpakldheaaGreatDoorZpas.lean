import Derived.Test.YtfmpjlpakldheaaGreatDoorZpar
import Derived.Test.YtfmpjlpakldheaaGreatDoorZpap
import Derived.Test.YtfmpjlpakldheaaGreatDoorZpao
import Derived.Laws.MakeOwn
import Derived.Laws.OwnMore
import Derived.Test.YtfmpjlpakldheaaGreatDoorZpad
import Derived.Deep.AppendLies
set_option maxRecDepth 100000
set_option maxHeartbeats 2000000
namespace Go.Proofs.YtfmpjlpakldheaaGreatDoor
open Tryz
open Go.RowKit Go.Proofs.Sha
def Ptr (p : Option Addr) (w : World) : Prop := p = none \/ ∃ (x : Nat) (cs : Array Value) (u : TypeId), p = some ⟨x, 0, none⟩ /\ w.heap[x]? = some (.cells cs u (0, 0))
theorem size125 : (prog.info? 131).map (·.size) = some 33 := by kernel_rfl
theorem size75 : (prog.info? 166).map (·.size) = some 10 := by kernel_rfl
theorem ptr_eqlR (a b : Option Addr) (w : World) (ha : Ptr a w) (hb : Ptr b w) : (binOp .eql 162 (.pointer a) (.pointer b)).run prog w = .ok (.bool (decide (a = b))) w := by
 obtain ⟨j, h1, h2⟩ := Option.map_eq_some_iff.1 size125
 exact run_eql_ptr 162 131 j Tryz.underlying162 h1 (by rw [h2]; decide) a b w ha hb
theorem ptr_eqlB (a b : Option Addr) (w : World) (ha : Ptr a w) (hb : Ptr b w) : (binOp .eql 161 (.pointer a) (.pointer b)).run prog w = .ok (.bool (decide (a = b))) w := by
 obtain ⟨j, h1, h2⟩ := Option.map_eq_some_iff.1 size75
 exact run_eql_ptr 161 166 j Tryz.underlying161 h1 (by rw [h2]; decide) a b w ha hb
def hgW (a b : ByteArray) : Bool := rk (sha a.data.toList) (sha b.data.toList) a.data.toList b.data.toList
def ParAt (par : Option Addr) (pk : ByteArray) (w : World) : Prop := (par = none /\ emp pk = true) \/ (emp pk = false /\ ∃ g, par = some ⟨g, 0, none⟩ /\ RKb g pk w)
theorem fits_no (over under key : ByteArray) (par : Option Addr) (w : World) (h : insW over under key = false) : Calls prog 184 #[.agg #[.string over, .string under, .pointer par], .agg (rkL key).toArray] w fun e w' => e = .returned (.bool false) /\ Below w.heap.size w w' := by
 obtain ⟨W, hW⟩ : ∃ W, (w.alloc (.cells #[.string over, .string under, .pointer par] 164)).alloc (.cells (rkL key).toArray 131) = W := ⟨_, rfl⟩
 have hb : Below w.heap.size w W := by rw [<- hW]; exact ((Below.refl _ _).alloc (Nat.le_refl _) _).alloc (by simp) _
 have n0 : W.heap[w.heap.size]? = some (.cells #[.string over, .string under, .pointer par] 164) := by rw [<- hW, Below.heap_alloc _ _ _ (by simp)]; exact heap_alloc_new w _
 have n1 : W.heap[w.heap.size + 1]? = some (.cells (rkL key).toArray 131) := by
  have := heap_alloc_new (w.alloc (.cells #[.string over, .string under, .pointer par] 164)) (.cells (rkL key).toArray 131)
  rw [<- hW]; simpa using this
 have ca : W.cell? ⟨w.heap.size, 0, none⟩ = some (.string over) := ZC n0 0
 have cc : W.cell? ⟨w.heap.size, 1, none⟩ = some (.string under) := ZC n0 1
 have cb : W.cell? ⟨w.heap.size + 1, 32, none⟩ = some (.string key) := RKb.c32 n1
 generalize (rkL key).toArray = cs at hW n1
 obtain ⟨ga, hga⟩ : ∃ ga, w.heap.size = ga := ⟨_, rfl⟩
 rw [hga] at ca cb cc
 cases a1 : Op.bytesLess key.toList over.toList with
 | true =>
  go_enter func184, ntmps184
  go_wp2_with fail
  go_ret
  exact ⟨rfl, by rw [hga] at hb ⊢; exact hb⟩
 | false =>
  cases a2 : (key.toList == over.toList) with
  | true =>
   go_enter func184, ntmps184
   go_wp2_with fail
   go_ret
   exact ⟨rfl, by rw [hga] at hb ⊢; exact hb⟩
  | false =>
   have hin : (emp under || lessB key under) = false := by
    unfold insW at h
    rw [lessB_tri over key] at h
    have : lessB key over = false := a1
    rw [this, a2] at h
    simpa using h
   rw [Bool.or_eq_false_iff] at hin
   have e2 := emp_iff under
   rw [hin.1] at e2
   have a3 : Op.bytesLess key.toList under.toList = false := hin.2
   go_enter func184, ntmps184
   go_wp2_with fail
   go_ret
   exact ⟨rfl, by rw [hga] at hb ⊢; exact hb⟩
theorem ins_yes {over under key : ByteArray} (h : insW over under key = true) : Op.bytesLess key.toList over.toList = false /\ (key.toList == over.toList) = false /\ (under.toList.isEmpty = true \/ (under.toList.isEmpty = false /\ Op.bytesLess key.toList under.toList = true)) := by
 unfold insW at h
 rw [Bool.and_eq_true, lessB_tri over key] at h
 obtain ⟨h1, h2⟩ := h
 have h1' : (lessB key over || (key.toList == over.toList)) = false := by simpa using h1
 rw [Bool.or_eq_false_iff] at h1'
 refine ⟨h1'.1, h1'.2, ?_⟩
 rw [emp_iff]
 cases hu : emp under with
 | true => exact .inl rfl
 | false => rw [hu, Bool.false_or] at h2; exact .inr ⟨rfl, h2⟩
theorem fits_top (over under key : ByteArray) (w : World) (h : insW over under key = true) : Calls prog 184 #[.agg #[.string over, .string under, .pointer none], .agg (rkL key).toArray] w fun e w' => e = .returned (.bool true) /\ Below w.heap.size w w' := by
 obtain ⟨W, hW⟩ : ∃ W, (w.alloc (.cells #[.string over, .string under, .pointer none] 164)).alloc (.cells (rkL key).toArray 131) = W := ⟨_, rfl⟩
 have hb : Below w.heap.size w W := by rw [<- hW]; exact ((Below.refl _ _).alloc (Nat.le_refl _) _).alloc (by simp) _
 have n0 : W.heap[w.heap.size]? = some (.cells #[.string over, .string under, .pointer none] 164) := by rw [<- hW, Below.heap_alloc _ _ _ (by simp)]; exact heap_alloc_new w _
 have n1 : W.heap[w.heap.size + 1]? = some (.cells (rkL key).toArray 131) := by
  have := heap_alloc_new (w.alloc (.cells #[.string over, .string under, .pointer none] 164)) (.cells (rkL key).toArray 131)
  rw [<- hW]; simpa using this
 have ca : W.cell? ⟨w.heap.size, 0, none⟩ = some (.string over) := ZC n0 0
 have cc : W.cell? ⟨w.heap.size, 1, none⟩ = some (.string under) := ZC n0 1
 have cd : W.cell? ⟨w.heap.size, 2, none⟩ = some (.pointer none) := ZC n0 2
 have cb : W.cell? ⟨w.heap.size + 1, 32, none⟩ = some (.string key) := RKb.c32 n1
 have qn : ∀ W' : World, (binOp .eql 162 (.pointer none) (.pointer none)).run prog W' = .ok (.bool true) W' := fun W' => by rw [ptr_eqlR none none W' (.inl rfl) (.inl rfl)]; rfl
 generalize (rkL key).toArray = cs at hW n1
 obtain ⟨ga, hga⟩ : ∃ ga, w.heap.size = ga := ⟨_, rfl⟩
 rw [hga] at ca cb cc cd
 obtain ⟨a1, a2, ha⟩ := ins_yes h
 clear h
 rcases ha with e2 | ⟨e2, a3⟩
 all_goals
  go_enter func184, ntmps184
  go_upto_region 3 with fail
  go_quiet (fail)
  go_wp2_with fail
  go_ret
  exact ⟨rfl, by rw [hga] at hb ⊢; exact ⟨hb.os, hb.tape, hb.output, hb.size, hb.block⟩⟩
theorem fits_par (over under key pk : ByteArray) (g : Nat) (w : World) (h : insW over under key = true) (hg : RKb g pk w) : Calls prog 184 #[.agg #[.string over, .string under, .pointer (some ⟨g, 0, none⟩)], .agg (rkL key).toArray] w fun e w' => e = .returned (.bool (hgW pk key)) /\ Below w.heap.size w w' := by
 obtain ⟨W, hW⟩ : ∃ W, (w.alloc (.cells #[.string over, .string under, .pointer (some ⟨g, 0, none⟩)] 164)).alloc (.cells (rkL key).toArray 131) = W := ⟨_, rfl⟩
 have hb : Below w.heap.size w W := by rw [<- hW]; exact ((Below.refl _ _).alloc (Nat.le_refl _) _).alloc (by simp) _
 have n0 : W.heap[w.heap.size]? = some (.cells #[.string over, .string under, .pointer (some ⟨g, 0, none⟩)] 164) := by rw [<- hW, Below.heap_alloc _ _ _ (by simp)]; exact heap_alloc_new w _
 have n1 : RKb (w.heap.size + 1) key W := by
  have := heap_alloc_new (w.alloc (.cells #[.string over, .string under, .pointer (some ⟨g, 0, none⟩)] 164)) (.cells (rkL key).toArray 131)
  unfold RKb
  rw [<- hW]; simpa using this
 have hg1 : RKb g pk W := (hb.block g (Array.getElem?_eq_some_iff.1 hg).1).trans hg
 have ca : W.cell? ⟨w.heap.size, 0, none⟩ = some (.string over) := ZC n0 0
 have cc : W.cell? ⟨w.heap.size, 1, none⟩ = some (.string under) := ZC n0 1
 have cd : W.cell? ⟨w.heap.size, 2, none⟩ = some (.pointer (some ⟨g, 0, none⟩)) := ZC n0 2
 have cb : W.cell? ⟨w.heap.size + 1, 32, none⟩ = some (.string key) := RKb.c32 n1
 have qn : ∀ W' : World, RKb g pk W' -> (binOp .eql 162 (.pointer (some ⟨g, 0, none⟩)) (.pointer none)).run prog W' = .ok (.bool false) W' := fun W' hW' => by rw [ptr_eqlR _ none W' (.inr ⟨g, _, _, rfl, hW'⟩) (.inl rfl)]; rfl
 have r1 := hg1.range
 have r2 := n1.range
 have HAB : Hid (∀ w', Calls prog 142 #[.agg (rkL pk).toArray, .agg (rkL key).toArray] w' fun e w'' => e = .returned (.bool (hgW pk key)) /\ Below w'.heap.size w' w'') := fun w' => above_any _ _ (by unfold sha; rw [outTo_length]) (by unfold sha; rw [outTo_length]) pk key w'
 obtain ⟨ga, hga⟩ : ∃ ga, w.heap.size = ga := ⟨_, rfl⟩
 rw [hga] at ca cb cc cd r2
 obtain ⟨a1, a2, ha⟩ := ins_yes h
 clear h
 have hq := qn W hg1
 have HS : Hid (∀ W', Below W.heap.size W W' -> W'.rangeAt g 0 (rkL pk) /\ W'.rangeAt (ga + 1) 0 (rkL key) /\ W'.cell? ⟨ga, 2, none⟩ = some (.pointer (some ⟨g, 0, none⟩)) /\ (binOp .eql 162 (.pointer (some ⟨g, 0, none⟩)) (.pointer none)).run prog W' = .ok (.bool false) W') := fun W' hW' => by
  have x1 : RKb g pk W' := (hW'.block g (Array.getElem?_eq_some_iff.1 hg1).1).trans hg1
  rw [hga] at n1 n0
  have x2 : RKb (ga + 1) key W' := (hW'.block (ga + 1) (Array.getElem?_eq_some_iff.1 n1).1).trans n1
  have x3 := (hW'.block ga (Array.getElem?_eq_some_iff.1 n0).1).trans n0
  exact ⟨x1.range, x2.range, ZC x3 2, qn W' x1⟩
 clear qn hq
 rcases ha with e2 | ⟨e2, a3⟩
 · go_enter func184, ntmps184
   go_upto_region 3 with fail
   refine wp_region_held_drew (S := fun W' => W'.rangeAt g 0 (rkL pk) /\ W'.rangeAt (ga + 1) 0 (rkL key) /\ W'.cell? ⟨ga, 2, none⟩ = some (.pointer (some ⟨g, 0, none⟩)) /\ (binOp .eql 162 (.pointer (some ⟨g, 0, none⟩)) (.pointer none)).run prog W' = .ok (.bool false) W') (by kernel_rfl) (HS.out _ (Below.refl _ _).drew) (fun hHeld => ?_)
   refine tkI 0 ?_
   simp only [Act.put, zq]
   refine tkI 1 ?_
   simp only [Act.put, zq]
   refine tkI 2 ?_
   simp only [Act.put, zq]
   refine tkI 3 ?_
   simp only [Act.put, zq]
   refine tkI 4 ?_
   simp only [Act.put, zq]
   refine tkI 5 ?_
   simp only [Act.put, zq]
   refine tkI 6 ?_
   simp only [Act.put, zq]
   refine tkH (i := 7) (v := _) rfl (yieldsIf_load_mid (by rfl) _ _ rfl _ _ rfl (rkL pk) _ (fun w h => h.1) Tryz.underlying131 rfl (by rw [rkL_len]; exact size125)) ?_
   simp only [Act.put, zq]
   refine tkH (i := 8) (v := _) rfl (yieldsIf_load_mid (by rfl) _ _ rfl _ _ rfl (rkL key) _ (fun w h => h.2.1) Tryz.underlying131 rfl (by rw [rkL_len]; exact size125)) ?_
   simp only [Act.put, zq]
   refine rdH 9 (fun K hK => ?_)
   go_simp
   refine (HAB.out _).mono ?_
   rintro e w1 ⟨rfl, hb1'⟩
   have hbw1 : Below W.heap.size W w1 := ((Below.refl W.heap.size W).drew).trans hb1'
   refine hK.out _ _ (HS.out _ hbw1) (fun hHeld => ?_)
   clear hK K
   refine tkI 10 ?_
   simp only [Act.put, zq]
   refine tkI 11 ?_
   simp only [Act.put, zq]
   refine wpAnyH_done (by kernel_rfl) ?_ _
   go_wp2_with fail
   go_ret
   exact ⟨rfl, hb.trans (hbw1.mono hb.size)⟩
 · go_enter func184, ntmps184
   go_upto_region 3 with fail
   refine wp_region_held_drew (S := fun W' => W'.rangeAt g 0 (rkL pk) /\ W'.rangeAt (ga + 1) 0 (rkL key) /\ W'.cell? ⟨ga, 2, none⟩ = some (.pointer (some ⟨g, 0, none⟩)) /\ (binOp .eql 162 (.pointer (some ⟨g, 0, none⟩)) (.pointer none)).run prog W' = .ok (.bool false) W') (by kernel_rfl) (HS.out _ (Below.refl _ _).drew) (fun hHeld => ?_)
   refine tkI 0 ?_
   simp only [Act.put, zq]
   refine tkI 1 ?_
   simp only [Act.put, zq]
   refine tkI 2 ?_
   simp only [Act.put, zq]
   refine tkI 3 ?_
   simp only [Act.put, zq]
   refine tkI 4 ?_
   simp only [Act.put, zq]
   refine tkI 5 ?_
   simp only [Act.put, zq]
   refine tkI 6 ?_
   simp only [Act.put, zq]
   refine tkH (i := 7) (v := _) rfl (yieldsIf_load_mid (by rfl) _ _ rfl _ _ rfl (rkL pk) _ (fun w h => h.1) Tryz.underlying131 rfl (by rw [rkL_len]; exact size125)) ?_
   simp only [Act.put, zq]
   refine tkH (i := 8) (v := _) rfl (yieldsIf_load_mid (by rfl) _ _ rfl _ _ rfl (rkL key) _ (fun w h => h.2.1) Tryz.underlying131 rfl (by rw [rkL_len]; exact size125)) ?_
   simp only [Act.put, zq]
   refine rdH 9 (fun K hK => ?_)
   go_simp
   refine (HAB.out _).mono ?_
   rintro e w1 ⟨rfl, hb1'⟩
   have hbw1 : Below W.heap.size W w1 := ((Below.refl W.heap.size W).drew).trans hb1'
   refine hK.out _ _ (HS.out _ hbw1) (fun hHeld => ?_)
   clear hK K
   refine tkI 10 ?_
   simp only [Act.put, zq]
   refine tkI 11 ?_
   simp only [Act.put, zq]
   refine wpAnyH_done (by kernel_rfl) ?_ _
   go_wp2_with fail
   go_ret
   exact ⟨rfl, hb.trans (hbw1.mono hb.size)⟩
theorem fits_any (over under key pk : ByteArray) (par : Option Addr) (w : World) (hp : ParAt par pk w) : Calls prog 184 #[.agg #[.string over, .string under, .pointer par], .agg (rkL key).toArray] w fun e w' => e = .returned (.bool (insW over under key && parW hgW pk key)) /\ Below w.heap.size w w' := by
 cases h : insW over under key with
 | false => exact fits_no over under key par w h
 | true =>
  rw [Bool.true_and]
  unfold parW
  rcases hp with ⟨rfl, he⟩ | ⟨he, g, rfl, hg⟩
  · rw [he]; exact fits_top over under key w h
  · rw [he]; exact fits_par over under key pk g w h hg
theorem wr_in64 (n : Int) (h : -9223372036854775808 <= n /\ n <= 9223372036854775807) : wrap64 n = n := by unfold wrap64; omega
def SmallP (ps : List PairT) : Prop := ps.length <= 1048576 /\ ∀ j, (ps.getD j noPair).1.size <= 1048576 /\ (ps.getD j noPair).2.size <= 1048576
theorem pget_out (ps : List PairT) (j : Nat) (h : ps.length <= j) : ps.getD j noPair = noPair := by
 rw [List.getD_eq_getElem?_getD, List.getElem?_eq_none h]; rfl
def flatP : List PairT -> List Value
 | [] => []
 | p :: l => .string p.1 :: .string p.2 :: flatP l
theorem flatP_len : ∀ l : List PairT, (flatP l).length = l.length * 2
 | [] => rfl
 | p :: l => by simp only [flatP, List.length_cons, flatP_len l]; omega
theorem flatP_app : ∀ l m : List PairT, flatP (l ++ m) = flatP l ++ flatP m
 | [], m => rfl
 | p :: l, m => by simp only [List.cons_append, flatP, flatP_app l m]
theorem flatP_get : ∀ (l : List PairT) (j : Nat), j < l.length -> (flatP l)[j * 2]? = some (.string (l.getD j noPair).1) /\ (flatP l)[j * 2 + 1]? = some (.string (l.getD j noPair).2)
 | [], j, h => absurd h (Nat.not_lt_zero _)
 | p :: l, 0, _ => ⟨rfl, rfl⟩
 | p :: l, j + 1, h => by
  have := flatP_get l j (by simpa using h)
  rw [show (j + 1) * 2 = j * 2 + 2 by omega]
  simpa [flatP] using this
theorem Row.parg {w : World} {base g c n : Nat} {ps : List PairT} (h : Row w base g n c (flatP ps)) (hs : SmallP ps) : PArg (some ⟨g, 0, none⟩) ps w := by
 refine ⟨hs.1, hs.2, fun _ => ⟨g, 0, rfl, h.lt, fun j hj => ?_⟩⟩
 have hn := h.len
 rw [flatP_len] at hn
 obtain ⟨e0, e1⟩ := flatP_get ps j hj
 rw [Nat.zero_add]
 exact ⟨(h.cell _ (by omega)).trans e0, (h.cell _ (by omega)).trans e1⟩
theorem info37 : (prog.info? 34).map (fun i => (i.zero, i.size, i.bytes)) = some (some (.agg #[.string ⟨#[]⟩, .string ⟨#[]⟩]), 2, 32) := by kernel_rfl
theorem info_parts2 {i : Option TypeInfo} {a : Option Value} {b c : Nat} (h : i.map (fun i => (i.zero, i.size, i.bytes)) = some (a, b, c)) : ∃ j, i = some j /\ j.zero = a /\ j.size = b /\ j.bytes = c := by
 cases i with
 | none => cases h
 | some j => simp only [Option.map_some, Option.some.injEq, Prod.mk.injEq] at h; exact ⟨j, rfl, h.1, h.2.1, h.2.2⟩
theorem own2_cells {w : World} {base g n : Nat} {v : Value} {xs : List Value} (h : w.ownsRow base 34 2 v n xs) (hv : v.ownBlock = some g) : base <= g /\ g < w.heap.size /\ ∃ cur, w.heap[g]? = some (.cells cur 34 (0, 0)) := by
 rcases h.2 with ⟨rfl, _⟩ | ⟨g', cap, cur, rfl, hb, hg, _⟩
 · cases hv
 · obtain rfl : g' = g := Option.some.inj hv
   exact ⟨hb, (Array.getElem?_eq_some_iff.1 hg).1, cur, hg⟩
theorem own2_kept {w w' : World} {base n : Nat} {v : Value} {xs : List Value} (h : w.ownsRow base 34 2 v n xs) (hk : ∀ g, v.ownBlock = some g -> g < w.heap.size -> w'.heap[g]? = w.heap[g]?) : w'.ownsRow base 34 2 v n xs := by
 refine ⟨h.1, ?_⟩
 rcases h.2 with ⟨h1, h2⟩ | ⟨g, cap, cur, hv, hb, hg, rest⟩
 · exact .inl ⟨h1, h2⟩
 · exact .inr ⟨g, cap, cur, hv, hb, (hk g (by rw [hv]; rfl) (Array.getElem?_eq_some_iff.1 hg).1).trans hg, rest⟩
theorem own2_mono {w : World} {base base' n : Nat} {v : Value} {xs : List Value} (h : w.ownsRow base 34 2 v n xs) (hb : base' <= base) : w.ownsRow base' 34 2 v n xs := by
 refine ⟨h.1, ?_⟩
 rcases h.2 with ⟨h1, h2⟩ | ⟨g, cap, cur, hv, hg, rest⟩
 · exact .inl ⟨h1, h2⟩
 · exact .inr ⟨g, cap, cur, hv, Nat.le_trans hb hg, rest⟩
def GoPost (R : Int × Nat × List PairT) (w : World) (e : Ending) (w' : World) : Prop :=
 (R.1 = 0 -> ∃ a c, e = .returned (.agg #[.slice a R.2.2.length c, .int .i64 (R.2.1 : Int), .int .i64 0]) /\ w'.ownsRow w.heap.size 34 2 (.slice a R.2.2.length c) R.2.2.length (flatP R.2.2)) ∧
 (R.1 ≠ 0 -> e = .returned (.agg #[.slice none 0 0, .int .i64 0, .int .i64 R.1])) /\ Below w.heap.size w w'
structure GS (w : World) (g8 g12 g16 gz g17 : Nat) (wd : Nat) (a : Option Addr) (n c : Nat) (over under : ByteArray) (cnt : Nat) (W : World) : Prop where
 sz : w.heap.size = g8
 o1 : g8 < g12
 o2 : g12 < g16
 o3 : g16 < gz
 o4 : gz < g17
 bl : Below w.heap.size w W
 n8 : W.heap[g8]? = some (.cells #[.int .i64 (wd : Int), .slice a n c] 37)
 n12 : W.heap[g12]? = some (.cells #[.string over, .string under] 106)
 n16 : W.heap[g16]? = some (.cells #[.slice none 0 0, .int .i64 0, .int .i64 0] 102)
 nz : W.heap[gz]? = some (.cells #[] 34)
 n17 : W.heap[g17]? = some (.cells #[.slice (some ⟨gz, 0, none⟩) 0 0, .int .i64 (cnt : Int), .int .i64 0] 102)
section
variable {w : World} {g8 g12 g16 gz g17 : Nat} {wd : Nat} {a : Option Addr} {n c : Nat} {over under : ByteArray} {cnt : Nat} {W W' : World}
theorem GS.lt (h : GS w g8 g12 g16 gz g17 wd a n c over under cnt W) : g17 < W.heap.size := (Array.getElem?_eq_some_iff.1 h.n17).1
theorem GS.below (h : GS w g8 g12 g16 gz g17 wd a n c over under cnt W) (hb : Below W.heap.size W W') : GS w g8 g12 g16 gz g17 wd a n c over under cnt W' := by
 have l := h.lt
 have h1 := h.o1
 have h2 := h.o2
 have h3 := h.o3
 have h4 := h.o4
 exact ⟨h.sz, h1, h2, h3, h4, h.bl.trans (hb.mono h.bl.size), (hb.block _ (by omega)).trans h.n8, (hb.block _ (by omega)).trans h.n12, (hb.block _ (by omega)).trans h.n16, (hb.block _ (by omega)).trans h.nz, (hb.block _ (by omega)).trans h.n17⟩
theorem GS.mk0 (w : World) (wd : Nat) (a : Option Addr) (n c : Nat) (over under : ByteArray) (cnt : Nat) : GS w w.heap.size (w.heap.size + 1) (w.heap.size + 1 + 1) (w.heap.size + 1 + 1 + 1) (w.heap.size + 1 + 1 + 1 + 1) wd a n c over under cnt
 (((((w.alloc (.cells #[.int .i64 (wd : Int), .slice a n c] 37)).alloc (.cells #[.string over, .string under] 106)).alloc (.cells #[.slice none 0 0, .int .i64 0, .int .i64 0] 102)).alloc (.cells #[] 34)).alloc (.cells #[.slice (some ⟨w.heap.size + 1 + 1 + 1, 0, none⟩) 0 0, .int .i64 (cnt : Int), .int .i64 0] 102)) := by
 have e1 := heap_alloc_new w (.cells #[.int .i64 (wd : Int), .slice a n c] 37)
 have e2 := heap_alloc_new (w.alloc (.cells #[.int .i64 (wd : Int), .slice a n c] 37)) (.cells #[.string over, .string under] 106)
 have e3 := heap_alloc_new ((w.alloc (.cells #[.int .i64 (wd : Int), .slice a n c] 37)).alloc (.cells #[.string over, .string under] 106)) (.cells #[.slice none 0 0, .int .i64 0, .int .i64 0] 102)
 have e4 := heap_alloc_new (((w.alloc (.cells #[.int .i64 (wd : Int), .slice a n c] 37)).alloc (.cells #[.string over, .string under] 106)).alloc (.cells #[.slice none 0 0, .int .i64 0, .int .i64 0] 102)) (.cells #[] 34)
 have e5 := heap_alloc_new ((((w.alloc (.cells #[.int .i64 (wd : Int), .slice a n c] 37)).alloc (.cells #[.string over, .string under] 106)).alloc (.cells #[.slice none 0 0, .int .i64 0, .int .i64 0] 102)).alloc (.cells #[] 34)) (.cells #[.slice (some ⟨w.heap.size + 1 + 1 + 1, 0, none⟩) 0 0, .int .i64 (cnt : Int), .int .i64 0] 102)
 simp only [World.size_alloc] at e1 e2 e3 e4 e5
 refine ⟨rfl, by omega, by omega, by omega, by omega, ?_, ?_, ?_, ?_, ?_, e5⟩
 · exact (((((Below.refl _ _).alloc (Nat.le_refl _) _).alloc (by simp) _).alloc (by simp; omega) _).alloc (by simp; omega) _).alloc (by simp; omega) _
 · rw [Below.heap_alloc _ _ _ (by simp <;> omega), Below.heap_alloc _ _ _ (by simp <;> omega), Below.heap_alloc _ _ _ (by simp <;> omega), Below.heap_alloc _ _ _ (by simp)]; exact e1
 · rw [Below.heap_alloc _ _ _ (by simp <;> omega), Below.heap_alloc _ _ _ (by simp <;> omega), Below.heap_alloc _ _ _ (by simp)]; exact e2
 · rw [Below.heap_alloc _ _ _ (by simp <;> omega), Below.heap_alloc _ _ _ (by simp)]; exact e3
 · rw [Below.heap_alloc _ _ _ (by simp)]; exact e4
theorem GS.fin (h : GS w g8 g12 g16 gz g17 wd a n c over under cnt W) (v0 v1 v2 : Value) :
 (((W.setCell ⟨g16, 0, none⟩ v0).setCell ⟨g16, 1, none⟩ v1).setCell ⟨g16, 2, none⟩ v2).heap[g16]? = some (.cells #[v0, v1, v2] 102) /\ Below w.heap.size w (((W.setCell ⟨g16, 0, none⟩ v0).setCell ⟨g16, 1, none⟩ v1).setCell ⟨g16, 2, none⟩ v2) /\ (∀ k, k ≠ g16 -> (((W.setCell ⟨g16, 0, none⟩ v0).setCell ⟨g16, 1, none⟩ v1).setCell ⟨g16, 2, none⟩ v2).heap[k]? = W.heap[k]?) := by
 have hg : w.heap.size <= g16 := by have := h.sz; have := h.o1; have := h.o2; omega
 refine ⟨heap_setCell_same _ g16 2 _ 102 _ (heap_setCell_same _ g16 1 _ 102 _ (heap_setCell_same _ g16 0 _ 102 _ h.n16)), ((h.bl.setCell hg _).setCell hg _).setCell hg _, fun k hk => ?_⟩
 rw [Below.heap_setCell _ _ _ _ (by exact hk), Below.heap_setCell _ _ _ _ (by exact hk), Below.heap_setCell _ _ _ _ (by exact hk)]
end
theorem retG {W : World} {A : Act} {g16 : Nat} {v0 v1 v2 : Value} {R : Ending -> World -> Prop} (hp : A.tmps.getD 16 undef = .pointer (some ⟨g16, 0, none⟩)) (hd : A.defers = []) (h : W.heap[g16]? = some (.cells #[v0, v1, v2] 102)) (hR : R (.returned (.agg #[v0, v1, v2])) W) : bodyPost prog Tryz.f75 R .ret A W := by
 have q0 := ZC h 0
 have q1 := ZC h 1
 have q2 := ZC h 2
 refine bodyPost_ret (v := .agg #[v0, v1, v2]) ?_ hd hR
 rw [results_cell W (fn := Tryz.f75) (p := 16) (ty := 102) rfl A.tmps _ hp]
 exact run_loadVar_mid W g16 0 102 [v0, v1, v2] _ (fun j u hj => by
  match j, hj with
  | 0, hj => simpa using q0.trans (by simpa using hj)
  | 1, hj => simpa using q1.trans (by simpa using hj)
  | 2, hj => simpa using q2.trans (by simpa using hj)) Tryz.underlying102 rfl (by kernel_rfl)
theorem own2_nil {w : World} {base gz : Nat} (hb : base <= gz) (h : w.heap[gz]? = some (.cells #[] 34)) : w.ownsRow base 34 2 (.slice (some ⟨gz, 0, none⟩) 0 0) 0 [] :=
 ⟨rfl, .inr ⟨gz, 0, #[], rfl, hb, h, by simp⟩⟩
theorem GS.skip {w : World} {g8 g12 g16 gz g17 : Nat} {wd : Nat} {a : Option Addr} {n c : Nat} {over under : ByteArray} {cnt : Nat} {W : World} (h : GS w g8 g12 g16 gz g17 wd a n c over under cnt W) {A : Act} {R : Int × Nat × List PairT} (hR : R = (0, cnt, [])) (hp : A.tmps.getD 16 undef = .pointer (some ⟨g16, 0, none⟩)) (hd : A.defers = []) :
 bodyPost prog Tryz.f75 (GoPost R w) .ret A (((W.setCell ⟨g16, 0, none⟩ (.slice (some ⟨gz, 0, none⟩) 0 0)).setCell ⟨g16, 1, none⟩ (.int .i64 (cnt : Int))).setCell ⟨g16, 2, none⟩ (.int .i64 0)) := by
 obtain ⟨h1, h2, h3⟩ := h.fin (.slice (some ⟨gz, 0, none⟩) 0 0) (.int .i64 (cnt : Int)) (.int .i64 0)
 subst hR
 have q1 := h.sz
 have q2 := h.o1
 have q3 := h.o2
 have q4 := h.o3
 refine retG hp hd h1 ⟨fun _ => ⟨some ⟨gz, 0, none⟩, 0, rfl, own2_nil (by omega) ((h3 gz (by omega)).trans h.nz)⟩, fun hne => absurd rfl hne, h2⟩
theorem GS.bad {w : World} {g8 g12 g16 gz g17 : Nat} {wd : Nat} {a : Option Addr} {n c : Nat} {over under : ByteArray} {cnt : Nat} {W : World} (h : GS w g8 g12 g16 gz g17 wd a n c over under cnt W) {A : Act} {R : Int × Nat × List PairT} (i : Int) (hR : R.1 = i) (hi : i ≠ 0) (hp : A.tmps.getD 16 undef = .pointer (some ⟨g16, 0, none⟩)) (hd : A.defers = []) :
 bodyPost prog Tryz.f75 (GoPost R w) .ret A (((W.setCell ⟨g16, 0, none⟩ (.slice none 0 0)).setCell ⟨g16, 1, none⟩ (.int .i64 0)).setCell ⟨g16, 2, none⟩ (.int .i64 i)) := by
 obtain ⟨h1, h2, h3⟩ := h.fin (.slice none 0 0) (.int .i64 0) (.int .i64 i)
 exact retG hp hd h1 ⟨fun h0 => absurd (hR.symm.trans h0) hi, fun _ => by rw [hR], h2⟩
section
variable {fnd : ByteArray -> FN} {hg : ByteArray -> ByteArray -> Bool} {lo hi : ByteArray}
theorem goF_len : ∀ (f : Nat) (hash over under par : ByteArray) (cnt : Nat), (goF fnd hg lo hi f hash over under par cnt).1 = 0 -> cnt + (goF fnd hg lo hi f hash over under par cnt).2.2.length <= (goF fnd hg lo hi f hash over under par cnt).2.1
 | 0, _, _, _, _, _, h => by rw [goF] at h; exact absurd h (by decide)
 | f + 1, hash, over, under, par, cnt, h => by
  cases h1 : (emp hash || !canW over under lo hi) with
  | true => rw [goF_skip h1]; exact Nat.le_refl _
  | false =>
   by_cases h2 : (fnd hash).2 = 2
   · rw [goF_missing h1 h2] at h; exact absurd h (by decide)
   · by_cases h20 : (fnd hash).2 = 0
     · cases h3 : (insW over under (fnd hash).1.1 && parW hg par (fnd hash).1.1) with
       | false => rw [goF_place h1 h20 h3] at h; exact absurd h (by decide)
       | true =>
        by_cases h4 : 500 < cnt + 1
        · rw [goF_many h1 h20 h3 h4] at h; exact absurd h (by decide)
        · have e : fnd hash = (((fnd hash).1.1, (fnd hash).1.2.1, (fnd hash).1.2.2.1, (fnd hash).1.2.2.2), 0) := by rw [<- h20]
          rw [goF_node h1 e h3 (by omega) rfl rfl] at h ⊢
          have il := goF_len f (fnd hash).1.2.2.1 over (fnd hash).1.1 (fnd hash).1.1 (cnt + 1)
          split at h
          · rename_i q; exact absurd h q
          · rename_i q
            have il := il (by simpa using q)
            split at h
            · rename_i q2; exact absurd h q2
            · rename_i q2
              have ir := goF_len f (fnd hash).1.2.2.2 (fnd hash).1.1 under (fnd hash).1.1 _ (by simpa using q2)
              rw [if_neg q, if_neg q2]
              simp only [List.length_append]
              have : (if hasW lo hi (fnd hash).1.1 = true then [((fnd hash).1.1, (fnd hash).1.2.1)] else []).length <= 1 := by split <;> simp
              omega
     · rw [goF, if_neg (by rw [h1]; decide), if_neg h2, if_pos h20] at h; exact absurd h (by decide)
end
structure OS (w : World) (g8 g12 g16 gz g17 : Nat) (wd : Nat) (a : Option Addr) (n c : Nat) (over under : ByteArray) (cnt : Nat) (gn gr : Nat) (k v l r : ByteArray) (a2 : Option Addr) (rn d2 Qn : Nat) (Qp : List PairT) (W : World) : Prop where
 gs : GS w g8 g12 g16 gz g17 wd a n c over under cnt W
 nn : W.heap[gn]? = some (.cells #[.string k, .string v, .string l, .string r] 128)
 rr : W.heap[gr]? = some (.cells #[.slice a2 rn d2, .int .i64 (Qn : Int), .int .i64 0] 102)
 ln : g17 < gn
 lr : g17 < gr
 row : W.ownsRow w.heap.size 34 2 (.slice a2 rn d2) rn (flatP Qp)
section
variable {w : World} {g8 g12 g16 gz g17 : Nat} {wd : Nat} {a : Option Addr} {n c : Nat} {over under : ByteArray} {cnt : Nat} {gn gr : Nat} {k v l r : ByteArray} {a2 : Option Addr} {rn d2 Qn : Nat} {Qp : List PairT} {W W' : World}
theorem OS.below (h : OS w g8 g12 g16 gz g17 wd a n c over under cnt gn gr k v l r a2 rn d2 Qn Qp W) (hb : Below W.heap.size W W') : OS w g8 g12 g16 gz g17 wd a n c over under cnt gn gr k v l r a2 rn d2 Qn Qp W' :=
 ⟨h.gs.below hb, (hb.block _ (Array.getElem?_eq_some_iff.1 h.nn).1).trans h.nn, (hb.block _ (Array.getElem?_eq_some_iff.1 h.rr).1).trans h.rr, h.ln, h.lr, own2_kept h.row (fun q _ hq => hb.block q hq)⟩
def Far (g17 gn gr : Nat) (a2 : Option Addr) (rn d2 : Nat) (x : Value) : Prop := ∀ q, x.ownBlock = some q -> g17 < q /\ q ≠ gn /\ q ≠ gr /\ (Value.slice a2 rn d2).ownBlock ≠ some q
theorem OS.grown {x : Value} (h : OS w g8 g12 g16 gz g17 wd a n c over under cnt gn gr k v l r a2 rn d2 Qn Qp W) (hg : W.grownBy W' x.ownBlock) (hf : Far g17 gn gr a2 rn d2 x) : OS w g8 g12 g16 gz g17 wd a n c over under cnt gn gr k v l r a2 rn d2 Qn Qp W' := by
 have l := h.gs.lt
 have h1 := h.gs.o1
 have h2 := h.gs.o2
 have h3 := h.gs.o3
 have h4 := h.gs.o4
 have h5 := h.gs.sz
 have far : ∀ q, q <= g17 -> q < W.heap.size -> W'.heap[q]? = W.heap[q]? := fun q hq hl => hg.block q hl (fun e => by have := (hf q e.symm).1; omega)
 refine ⟨⟨h.gs.sz, h1, h2, h3, h4, ?_, (far _ (by omega) (by omega)).trans h.gs.n8, (far _ (by omega) (by omega)).trans h.gs.n12, (far _ (by omega) (by omega)).trans h.gs.n16, (far _ (by omega) (by omega)).trans h.gs.nz, (far _ (by omega) (by omega)).trans h.gs.n17⟩, ?_, ?_, h.ln, h.lr, ?_⟩
 · exact ⟨hg.os.trans h.gs.bl.os, hg.tape.trans h.gs.bl.tape, hg.output.trans h.gs.bl.output, Nat.le_trans h.gs.bl.size hg.size, fun q hq => (far q (by omega) (Nat.lt_of_lt_of_le hq h.gs.bl.size)).trans (h.gs.bl.block q hq)⟩
 · exact (hg.block gn (Array.getElem?_eq_some_iff.1 h.nn).1 (fun e => (hf gn e.symm).2.1 rfl)).trans h.nn
 · exact (hg.block gr (Array.getElem?_eq_some_iff.1 h.rr).1 (fun e => (hf gr e.symm).2.2.1 rfl)).trans h.rr
 · exact own2_kept h.row (fun q hv hq => hg.block q hq (fun e => (hf q e.symm).2.2.2 hv))
theorem OS.pair (h : OS w g8 g12 g16 gz g17 wd a n c over under cnt gn gr k v l r a2 rn d2 Qn Qp W) (hl : Qp.length = rn) (j : Nat) (hj : j < rn) : ∃ b, a2 = some ⟨b, 0, none⟩ /\ W.cell? ⟨b, j * 2, none⟩ = some (.string (Qp.getD j noPair).1) /\ W.cell? ⟨b, j * 2 + 1, none⟩ = some (.string (Qp.getD j noPair).2) := by
 rcases h.row.2 with ⟨e, h0⟩ | ⟨b, cap', cur, e, hb, hg, q1, q2, q3, q4⟩
 · omega
 · simp only [Value.slice.injEq] at e
   obtain ⟨rfl, _, _⟩ := e
   obtain ⟨e0, e1⟩ := flatP_get Qp j (by omega)
   rw [<- q4] at e0 e1
   rw [List.getElem?_take, if_pos (by omega)] at e0 e1
   exact ⟨b, rfl, (ZC hg _).trans (by simpa using e0), (ZC hg _).trans (by simpa using e1)⟩
structure OutAt (w : World) (g8 g12 g16 gz g17 : Nat) (wd : Nat) (a : Option Addr) (n c : Nat) (over under : ByteArray) (cnt : Nat) (gn gr : Nat) (k v l r : ByteArray) (a2 : Option Addr) (rn d2 Qn : Nat) (Qp : List PairT) (x : Value) (m : Nat) (xs : List PairT) (W : World) : Prop where
 os : OS w g8 g12 g16 gz g17 wd a n c over under cnt gn gr k v l r a2 rn d2 Qn Qp W
 own : W.ownsRow w.heap.size 34 2 x m (flatP xs)
 far : Far g17 gn gr a2 rn d2 x
 len : xs.length = m
theorem OutAt.below {x : Value} {m : Nat} {xs : List PairT} (h : OutAt w g8 g12 g16 gz g17 wd a n c over under cnt gn gr k v l r a2 rn d2 Qn Qp x m xs W) (hb : Below W.heap.size W W') : OutAt w g8 g12 g16 gz g17 wd a n c over under cnt gn gr k v l r a2 rn d2 Qn Qp x m xs W' :=
 ⟨h.os.below hb, own2_kept h.own (fun q _ hq => hb.block q hq), h.far, h.len⟩
theorem OutAt.more {x : Value} {m m' g cap : Nat} {xs : List PairT} {y : PairT} {o : Obj} (h : OutAt w g8 g12 g16 gz g17 wd a n c over under cnt gn gr k v l r a2 rn d2 Qn Qp x m xs W)
 (hown : W'.ownsRow w.heap.size 34 2 (.slice (some ⟨g, 0, none⟩) m' cap) m' (flatP xs ++ [.string y.1, .string y.2])) (hgrow : (W.alloc o).grownBy W' x.ownBlock) (hat : x.ownBlock = some g \/ g = W.heap.size + 1) (hm : m' = m + 1) : OutAt w g8 g12 g16 gz g17 wd a n c over under cnt gn gr k v l r a2 rn d2 Qn Qp (.slice (some ⟨g, 0, none⟩) m' cap) m' (xs ++ [y]) W' := by
 have ha := h.below ((Below.refl W.heap.size W).alloc (Nat.le_refl _) o)
 refine ⟨ha.os.grown hgrow h.far, by rw [flatP_app]; exact hown, fun q hq => ?_, by rw [List.length_append, h.len, hm]; rfl⟩
 obtain rfl : g = q := Option.some.inj hq
 rcases hat with e | e
 · exact h.far g e
 · have l1 := h.os.gs.lt
   have l2 := (Array.getElem?_eq_some_iff.1 h.os.nn).1
   have l3 := (Array.getElem?_eq_some_iff.1 h.os.rr).1
   refine ⟨by omega, by omega, by omega, fun e2 => ?_⟩
   have := (own2_cells h.os.row e2).2.1
   omega
theorem OutAt.fin {a' : Option Addr} {m d' : Nat} {xs : List PairT} {R : Int × Nat × List PairT} {A : Act} (h : OutAt w g8 g12 g16 gz g17 wd a n c over under cnt gn gr k v l r a2 rn d2 Qn Qp (.slice a' m d') m xs W) (hR : R = (0, Qn, xs)) (hp : A.tmps.getD 16 undef = .pointer (some ⟨g16, 0, none⟩)) (hd : A.defers = []) :
 bodyPost prog Tryz.f75 (GoPost R w) .ret A (((W.setCell ⟨g16, 0, none⟩ (.slice a' m d')).setCell ⟨g16, 1, none⟩ (.int .i64 (Qn : Int))).setCell ⟨g16, 2, none⟩ (.int .i64 0)) := by
 obtain ⟨h1, h2, h3⟩ := h.os.gs.fin (.slice a' m d') (.int .i64 (Qn : Int)) (.int .i64 0)
 subst hR
 have q4 := h.os.gs.o3
 have q5 := h.os.gs.o4
 refine retG hp hd h1 ⟨fun _ => ⟨a', d', by rw [h.len], ?_⟩, fun hne => absurd rfl hne, h2⟩
 rw [h.len]
 exact own2_kept h.own (fun q hv _ => h3 q (by have := (h.far q hv).1; omega))
end
end Go.Proofs.YtfmpjlpakldheaaGreatDoor
