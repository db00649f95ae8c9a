import Derived.Test.YtfmpjlpakldheaaGreatDoorZsao
import Derived.Test.YtfmpjlpakldheaaGreatDoorZsan
import Derived.Test.YtfmpjlpakldheaaGreatDoorZsak
import Derived.Test.YtfmpjlpakldheaaGreatDoorZsam
set_option maxRecDepth 100000
set_option maxHeartbeats 2000000
namespace Go.Proofs.YtfmpjlpakldheaaGreatDoor
open Tryz
open Go.RowKit Go.Proofs.Sha
theorem anymap_det (a : Option Addr) (xs : List Nat) (cap p : Nat) (hX : Code8 xs) (hp : p <= 60000) :
 ∃ (ps : List PairT) (z : Nat), (SmQ ps 15 /\ z <= p + 43) /\ ∀ w, BL a xs w -> Calls prog 43 #[.slice a xs.length cap, .int .i64 (p : Int)] w (MGot ps z w) := by
 obtain ⟨x, hx, HT⟩ := take_det a xs cap p 40 hX (by omega) (by omega) (by omega)
 have hL := hX.le
 obtain ⟨n, hn⟩ : ∃ n, (if 14 < 1 + xs.length / 8 then 14 else 1 + xs.length / 8) = n := ⟨_, rfl⟩
 have hn1 : 1 <= n /\ n <= 14 := by split at hn <;> omega
 have HC : ∀ w, Calls prog 93 #[.slice a xs.length cap, .int .i64 8, .int .i64 1, .int .i64 14] w fun e w' => e = .returned (.int .i64 (n : Int)) /\ w' = w := fun w => by
  rw [<- hn]
  exact count_any a xs.length cap 8 1 14 w (by omega) hL (by omega) (by omega)
 obtain ⟨ps, ⟨hS, hpos⟩, HM⟩ := map1_det a xs cap (p + 1) n hX (by omega) (by omega)
 have hp0 := hpos (by omega)
 have hlen := hS.len
 have hq := hS.q
 have hq15 : SmQ ps 15 := ⟨by omega, hq.sz⟩
 have hget : ∀ j, (ps.getD j noPair).1.size <= 300 /\ (ps.getD j noPair).2.size <= 2001 := fun j => by
  by_cases hj : j < ps.length
  · rw [List.getD_eq_getElem?_getD, List.getElem?_eq_getElem hj]
    exact hq.sz _ (List.getElem_mem hj)
  · rw [List.getD_eq_getElem?_getD, List.getElem?_eq_none (by omega)]
    exact ⟨Nat.zero_le _, Nat.zero_le _⟩
 have hm2 : (p + 1 + 3 * n) % 2 < 2 := Nat.mod_lt _ (by omega)
 by_cases h1 : x < 35
 · exact ⟨ps, _, ⟨hq15, by omega⟩, amap_a a xs cap p x n _ ps hS hn1.2 (by omega) HT HC HM h1⟩
 by_cases h2 : x = 35
 · by_cases hl : ps.length <= 1
   · exact ⟨ps, _, ⟨hq15, by omega⟩, amap_b a xs cap p x n _ ps hS hn1.2 (by omega) HT HC HM h2 hl⟩
   · refine ⟨_, _, ⟨⟨by rw [List.length_set, List.length_set]; omega, fun q hq' => ?_⟩, by omega⟩, amap_e a xs cap p x n _ ps hS hn1.2 (by omega) HT HC HM h2 (by omega)⟩
     rcases List.mem_or_eq_of_mem_set hq' with h | h
     · rcases List.mem_or_eq_of_mem_set h with h | h
       · exact hq.sz q h
       · rw [h]; exact hget 1
     · rw [h]; exact hget 0
 by_cases h3 : x = 36
 · refine ⟨_, _, ⟨⟨by rw [List.length_append]; show _ + 1 <= 15; omega, fun q hq' => ?_⟩, by omega⟩, amap_d a xs cap p x n _ ps hS hn1.2 (by omega) HT HC HM h3 hp0⟩
   rcases List.mem_append.1 hq' with h | h
   · exact hq.sz q h
   · rw [List.mem_singleton.1 h]; exact hget _
 by_cases h4 : x = 37
 · refine ⟨_, _, ⟨⟨by rw [List.length_cons]; omega, fun q hq' => ?_⟩, by omega⟩, amap_f a xs cap p x n _ ps hS hn1.2 (by omega) HT HC HM h4 hp0⟩
   rcases List.mem_cons.1 hq' with h | h
   · rw [h]; exact ⟨Nat.zero_le _, Nat.zero_le _⟩
   · exact hq.sz q h
 by_cases h5 : x = 38
 · refine ⟨_, _, ⟨⟨by simp, fun q hq' => ?_⟩, by omega⟩, amap_g a xs cap p x n _ ps hS hn1.2 (by omega) HT HC HM h5⟩
   rw [List.mem_singleton.1 hq', reps_size, reps_size]
   omega
 · refine ⟨_, _, ⟨⟨by simp, fun q hq' => ?_⟩, by omega⟩, amap_h a xs cap p x n _ ps hS hn1.2 (by omega) HT HC HM (by omega)⟩
   rw [List.mem_singleton.1 hq', reps_size]
   exact ⟨by show (⟨#[107]⟩ : ByteArray).size <= 300; decide, by omega⟩
def crD (i : Nat) : ByteArray := byteS (97 + i / 100) ++ byteS (48 + i / 10 % 10) ++ byteS (48 + i % 10)
def crowd (n : Nat) : List PairT := (List.range n).map fun i => (crD i, ⟨#[]⟩)
theorem crowd_succ (n : Nat) : crowd (n + 1) = crowd n ++ [(crD n, ⟨#[]⟩)] := by unfold crowd; rw [List.range_succ, List.map_append]; rfl
theorem crowd_len (n : Nat) : (crowd n).length = n := by unfold crowd; rw [List.length_map, List.length_range]
theorem crowd_any (n : Nat) (hn : n <= 1000) (w : World) : Calls prog 60 #[.int .i64 (n : Int)] w (PairsAt (crowd n) w) := by
 obtain ⟨i0, hi0, hz0, hz1, hz2⟩ := info_parts2 info37
 have hO := OwnP.nil w
 go_enter func60, ntmps60
 go_wp2_with fail
 go_loopw [3, 4] (fun t3 t4 wr => ∃ k : Nat, k <= n /\ t4 = .int .i64 (k : Int) /\ ∃ (a' : Option Addr) (m d' : Nat), t3 = .slice a' m d' /\ OwnP w (crowd k) a' m d' wr) (fun _ t4 _ => n - (intOf t4).toNat)
 case atStart => exact ⟨0, Nat.zero_le _, rfl, _, _, _, rfl, hO⟩
 case round =>
  obtain ⟨k, hk, rfl, a', m, d', rfl, hW⟩ := hrel
  by_cases hlt : k < n
  · have z1 : decide ((k : Int) < (n : Int)) = true := by simp; omega
    have hml : m <= 1000 := by have := hW.len; rw [crowd_len] at this; omega
    have hcr : Hid (crD k = byteS (97 + k / 100) ++ byteS (48 + k / 10 % 10) ++ byteS (48 + k % 10)) := rfl
    have H1 : Hid (∀ m w', m = ((97 + k / 100 : Nat) : Int) -> Calls prog 78 #[.int .i64 m] w' fun e w'' => e = .returned (.string (byteS (97 + k / 100))) /\ Below w'.heap.size w' w'') := fun m w' hm => byte_d m _ hm (by omega) w'
    have H2 : Hid (∀ m w', m = ((48 + k / 10 % 10 : Nat) : Int) -> Calls prog 78 #[.int .i64 m] w' fun e w'' => e = .returned (.string (byteS (48 + k / 10 % 10))) /\ Below w'.heap.size w' w'') := fun m w' hm => byte_d m _ hm (by omega) w'
    have H3 : Hid (∀ m w', m = ((48 + k % 10 : Nat) : Int) -> Calls prog 78 #[.int .i64 m] w' fun e w'' => e = .returned (.string (byteS (48 + k % 10))) /\ Below w'.heap.size w' w'') := fun m w' hm => byte_d m _ hm (by omega) w'
    obtain ⟨t1, ht1⟩ : ∃ t, byteS (97 + k / 100) = t := ⟨_, rfl⟩
    obtain ⟨t2, ht2⟩ : ∃ t, byteS (48 + k / 10 % 10) = t := ⟨_, rfl⟩
    obtain ⟨t3, ht3⟩ : ∃ t, byteS (48 + k % 10) = t := ⟨_, rfl⟩
    have hs1 : t1.size = 1 := by rw [<- ht1]; rfl
    have hs2 : t2.size = 1 := by rw [<- ht2]; rfl
    have hs3 : t3.size = 1 := by rw [<- ht3]; rfl
    rw [ht1] at H1 hcr
    rw [ht2] at H2 hcr
    rw [ht3] at H3 hcr
    have hy1 : ¬ (9223372036854775807 < t1.size + t2.size) := by omega
    have hy2 : ¬ (9223372036854775807 < t1.size + t2.size + t3.size) := by omega
    clear ht1 ht2 ht3 hs1 hs2 hs3
    have hbs := hW.bel.size
    go_upto_region 6 with (first | (go_at_call 78; refine (H1.out _ _ (by omega)).mono ?_; rintro e wa ⟨rfl, hba⟩; have hWa := hW.below hba) | (go_at_call 78; refine (H2.out _ _ (by omega)).mono ?_; rintro e wb ⟨rfl, hbb⟩; have hWb := hWa.below hbb) | (go_at_call 78; refine (H3.out _ _ (by omega)).mono ?_; rintro e wd ⟨rfl, hbd⟩; have hWd := hWb.below hbd))
    have own := hWd.own
    have hbs' : w.heap.size <= wd.heap.size := hWd.bel.size
    generalize t1 ++ t2 ++ t3 = key at hcr ⊢
    clear hW hWa hWb hba hbb hbd H1 H2 H3 hy1 hy2
    go_wp2_with (at_builtin; refine wpList_append_lies _ rfl (.tmp 27) (.tmp 30) 23 rfl w.heap.size 34 i0 (.agg #[.string ⟨#[]⟩, .string ⟨#[]⟩]) 2 32 Tryz.underlying23 hi0 hz0 hz1 hz2 rfl (by decide) (.slice a' m d') m (flatP (crowd k)) rfl (own.alloc _) ⟨wd.heap.size, 0, none⟩ 1 1 [.string key, .string ⟨#[]⟩] rfl rfl (World.news_of_block (heap_alloc_new wd _)) (by simp [Value.oneCell']) (by decide) (by unfold maxLen; omega) (by omega) (by simp; omega) (wd.heap.size + 1) (by simp) ?_; intro g5 c5 w5 hown5 hgrow5 hat5 hlt5)
    go_roundw
    case rel => exact ⟨k + 1, hlt, by go_num, _, _, _, rfl, by rw [crowd_succ, hcr.out]; exact hWd.more hown5 hgrow5 rfl⟩
    case measure => simp [intOf]; omega
  · obtain rfl : k = n := by omega
    have z1 : decide ((k : Int) < (k : Int)) = false := by simp
    have hl := hW.len
    rw [crowd_len] at hl
    subst hl
    go_wp2_with fail
    go_ret
    exact ⟨_, _, by rw [crowd_len]; rfl, by rw [crowd_len]; exact hW⟩
theorem crowd_sm (n : Nat) : SmQ (crowd n) n := by
 refine ⟨Nat.le_of_eq (crowd_len n), fun q hq => ?_⟩
 unfold crowd at hq
 obtain ⟨i, _, rfl⟩ := List.mem_map.1 hq
 refine ⟨?_, Nat.zero_le _⟩
 show (crD i).size <= 300
 unfold crD
 rw [ByteArray.size_append, ByteArray.size_append]
 show 1 + 1 + 1 <= 300
 omega
def AGot (n : Int) (ss roots : List ByteArray) (root : ByteArray) (z : Nat) (w : World) (e : Ending) (w' : World) : Prop := ∃ ap cp ar cr, e = .returned (.tuple #[.agg #[.int .i64 n, .slice ap ss.length cp], .string root, .slice ar roots.length cr, .int .i64 (z : Int)]) /\ SArg ap ss w' /\ SArg ar roots w' /\ Below w.heap.size w w'
theorem retPT4 {fn : Func} {R : Ending -> World -> Prop} {A : Act} {p q r s : Tmp} {gb : Nat} {n : Int} {a : Option Addr} {m c : Nat} {v2 v3 v4 : Value} {W : World} (hres : fn.results = #[.cell p 37, .tmp q, .tmp r, .tmp s]) (hp : A.tmps.getD p undef = .pointer (some ⟨gb, 0, none⟩)) (hq : A.tmps.getD q undef = v2) (hr : A.tmps.getD r undef = v3) (hs : A.tmps.getD s undef = v4) (hd : A.defers = []) (hn : W.heap[gb]? = some (.cells #[.int .i64 n, .slice a m c] 37))
 (h : R (.returned (.tuple #[.agg #[.int .i64 n, .slice a m c], v2, v3, v4])) W) : bodyPost prog fn R Exit.ret A W := by
 have c0 := ZC hn 0
 have c1 := ZC hn 1
 have hp' : A.tmps[p]?.getD undef = .pointer (some ⟨gb, 0, none⟩) := by simpa using hp
 have hq' : A.tmps[q]?.getD undef = v2 := by simpa using hq
 have hr' : A.tmps[r]?.getD undef = v3 := by simpa using hr
 have hs' : A.tmps[s]?.getD undef = v4 := by simpa using hs
 refine bodyPost_ret (v := .tuple #[.agg #[.int .i64 n, .slice a m c], v2, v3, v4]) ?_ hd h
 simp [results, hres, go_sem, asAddr, hp', hq', hr', hs', c0, c1]
structure AP (w : World) (gr gq : Nat) (n : Int) (ss roots : List ByteArray) (ap : Option Addr) (cp : Nat) (ar : Option Addr) (W : World) : Prop where
 res : W.heap[gr]? = some (.cells #[.int .i64 0, .slice none 0 0] 37)
 pool : W.heap[gq]? = some (.cells #[.int .i64 n, .slice ap ss.length cp] 37)
 ne : gr ≠ gq
 ge : w.heap.size <= gr
 ge2 : w.heap.size <= gq
 parg : SArg ap ss W
 rarg : SArg ar roots W
 bel : Below w.heap.size w W
section
variable {w : World} {gr gq : Nat} {n : Int} {ss roots : List ByteArray} {ap : Option Addr} {cp : Nat} {ar : Option Addr} {W W' : World}
theorem AP.below (h : AP w gr gq n ss roots ap cp ar W) (hb : Below W.heap.size W W') : AP w gr gq n ss roots ap cp ar W' :=
 ⟨pblk_below hb h.res, pblk_below hb h.pool, h.ne, h.ge, h.ge2, h.parg.below hb, h.rarg.below hb, h.bel.trans (hb.mono h.bel.size)⟩
theorem SArg.set37 {a : Option Addr} {xs : List ByteArray} {g o : Nat} {n' : Int} {v : Option Addr} {m c : Nat} (h : SArg a xs W) (hg : W.heap[g]? = some (.cells #[.int .i64 n', .slice v m c] 37)) (u : Value) : SArg a xs (W.setCell ⟨g, o, none⟩ u) :=
 h.grown (grownBy_setCell W g o u) (fun b off e hp q => h.pool hg b off e hp (Option.some.inj q))
theorem AP.setw (h : AP w gr gq n ss roots ap cp ar W) (n' : Int) : AP w gr gq n' ss roots ap cp ar (W.setCell ⟨gq, 0, none⟩ (.int .i64 n')) :=
 ⟨(Below.heap_setCell _ _ _ _ (by show gr ≠ gq; exact h.ne)).trans h.res, heap_setCell_same W gq 0 _ 37 (.int .i64 n') h.pool, h.ne, h.ge, h.ge2, h.parg.set37 h.pool _, h.rarg.set37 h.pool _, h.bel.setCell (p := ⟨gq, 0, none⟩) h.ge2 _⟩
theorem AP.m1 (h : AP w gr gq n ss roots ap cp ar W) : ((W.setCell ⟨gr, 0, none⟩ (.int .i64 n)).setCell ⟨gr, 1, none⟩ (.slice ap ss.length cp)).heap[gr]? = some (.cells #[.int .i64 n, .slice ap ss.length cp] 37) :=
 heap_setCell_same _ gr 1 _ 37 (.slice ap ss.length cp) (heap_setCell_same W gr 0 _ 37 (.int .i64 n) h.res)
theorem AP.fin (h : AP w gr gq n ss roots ap cp ar W) (root : ByteArray) (z cr : Nat) : AGot n ss roots root z w (.returned (.tuple #[.agg #[.int .i64 n, .slice ap ss.length cp], .string root, .slice ar roots.length cr, .int .i64 (z : Int)])) ((W.setCell ⟨gr, 0, none⟩ (.int .i64 n)).setCell ⟨gr, 1, none⟩ (.slice ap ss.length cp)) := by
 have m0 := heap_setCell_same W gr 0 _ 37 (.int .i64 n) h.res
 exact ⟨ap, cp, ar, cr, rfl, (h.parg.set37 h.res _).set37 m0 _, (h.rarg.set37 h.res _).set37 m0 _, (h.bel.setCell (p := ⟨gr, 0, none⟩) h.ge _).setCell (p := ⟨gr, 1, none⟩) h.ge _⟩
end
theorem retPT2 {fn : Func} {R : Ending -> World -> Prop} {A : Act} {p q : Tmp} {gb : Nat} {n : Int} {a : Option Addr} {m c : Nat} {v2 : Value} {W : World} (hres : fn.results = #[.cell p 37, .tmp q]) (hp : A.tmps.getD p undef = .pointer (some ⟨gb, 0, none⟩)) (hq : A.tmps.getD q undef = v2) (hd : A.defers = []) (hn : W.heap[gb]? = some (.cells #[.int .i64 n, .slice a m c] 37))
 (h : R (.returned (.tuple #[.agg #[.int .i64 n, .slice a m c], v2])) W) : bodyPost prog fn R Exit.ret A W := by
 have c0 := ZC hn 0
 have c1 := ZC hn 1
 have hp' : A.tmps[p]?.getD undef = .pointer (some ⟨gb, 0, none⟩) := by simpa using hp
 have hq' : A.tmps[q]?.getD undef = v2 := by simpa using hq
 refine bodyPost_ret (v := .tuple #[.agg #[.int .i64 n, .slice a m c], v2]) ?_ hd h
 simp [results, hres, go_sem, asAddr, hp', hq', c0, c1]
end Go.Proofs.YtfmpjlpakldheaaGreatDoor
