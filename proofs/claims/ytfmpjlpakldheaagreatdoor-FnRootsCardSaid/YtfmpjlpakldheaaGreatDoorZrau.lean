import Derived.Test.YtfmpjlpakldheaaGreatDoorZrat
import Derived.Test.YtfmpjlpakldheaaGreatDoorZram
import Derived.Test.YtfmpjlpakldheaaGreatDoorZrah
import Derived.Test.YtfmpjlpakldheaaGreatDoorZras
import Derived.WalkSpells
import Derived.WalkLawsBesides
import Derived.Deep.RegionHeld3
import Derived.Test.YtfmpjlpakldheaaGreatDoorZraa
import Derived.Test.YtfmpjlpakldheaaGreatDoorZraj
set_option maxRecDepth 100000
set_option maxHeartbeats 1000000
namespace Go.Proofs.YtfmpjlpakldheaaGreatDoor
open Go.RowKit Go.Proofs.Sha Tryz
theorem stockOf_any {K : World -> Prop} (HH : Hid (HashSaid K)) (keep : Hid (∀ w1 w2, K w1 -> Below w1.heap.size w1 w2 -> K w2)) (wd : Nat) (a : Option Addr) (ss : List ByteArray) (c : Nat) (w : World) (h : SArg a ss w) (hK : K w) (h1 : wd <= 32) :
 Calls prog 70 #[.agg #[.int .i64 (wd : Int), .slice a ss.length c]] w fun e w' => ∃ sb r a' c', e = .returned (.pointer (some ⟨sb, 0, none⟩)) /\ StockAt sb r (sb + 1) wd ss a' c' w' /\ Below w.heap.size w w' := by
 have hn := h.le
 have hbA : Below w.heap.size w (w.alloc (.cells #[.int .i64 (wd : Int), .slice a ss.length c] 37)) := (Below.refl _ _).alloc (Nat.le_refl _) _
 have nA := heap_alloc_new w (.cells #[.int .i64 (wd : Int), .slice a ss.length c] 37)
 obtain ⟨ga, hga⟩ : ∃ ga, w.heap.size = ga := ⟨_, rfl⟩
 rw [hga] at nA
 have hsA : (w.alloc (.cells #[.int .i64 (wd : Int), .slice a ss.length c] 37)).heap.size = ga + 1 := by simp; omega
 go_enter func70, ntmps70
 go_upto_region 1 with fail
 try rw [hga]
 generalize w.alloc (.cells #[.int .i64 (wd : Int), .slice a ss.length c] 37) = wa at hbA nA hsA ⊢
 have c0 := ZC nA 0
 go_upto_region 2 with (first | (go_at_call 111; refine (newStock_any wd _).mono ?_; rintro e w1 ⟨sb, r, rfl, hS, hb1, hr1, hr2⟩))
 have nA1 := (hb1.block ga (by omega)).trans nA
 have hbw := hbA.trans (hb1.mono hbA.size)
 have c1 := ZC nA1 1
 clear c0 hb1 nA
 go_wp2_with fail
 go_loopw [12] (fun t12 wr => ∃ (k : Nat) (a' : Option Addr) (c' : Nat), k <= ss.length /\ t12 = .int .i64 (k : Int) /\ StockAt sb r (sb + 1) wd (ss.take k) a' c' wr /\ Below w.heap.size w wr) (fun t12 _ => ss.length - (intOf t12).toNat)
 case atStart => exact ⟨0, none, 0, Nat.zero_le _, rfl, hS, hbw⟩
 case round =>
  clear c1 nA1 hS hbw
  obtain ⟨k, a', c', hk, rfl, hSk, hbk⟩ := hrel
  by_cases hlt : k < ss.length
  · have z1 : decide ((k : Int) < (ss.length : Int)) = true := by simp; omega
    obtain ⟨b, off, rfl, hbl, hc⟩ := (h.below hbk).at_ (by omega)
    have hcx := hc k hlt
    have htk : ss.take (k + 1) = ss.take k ++ [ss.getD k ⟨#[]⟩] := by
     rw [List.take_add_one, List.getD_eq_getElem?_getD, List.getElem?_eq_getElem hlt]; rfl
    obtain ⟨s, hs⟩ : ∃ s, ss.getD k ⟨#[]⟩ = s := ⟨_, rfl⟩
    have hsz : s.size <= 1048576 := by rw [<- hs]; exact h.sz k
    rw [hs] at hcx htk
    have HAdd : Hid (Calls prog 112 #[.pointer (some ⟨sb, 0, none⟩), .string s] wr fun e w' => ∃ a'' c'', e = .returned (.tuple #[]) /\ StockAt sb r (sb + 1) wd (ss.take k ++ [s]) a'' c'' w' /\ ∀ n, n <= sb -> n <= r -> Below n wr w') := stockAdd_any HH keep sb r (sb + 1) wd (ss.take k) a' c' s wr hSk (keep.out _ _ hK hbk) hsz h1 (by rw [List.length_take]; omega)
    rw [<- htk] at HAdd
    clear hc hs htk hSk
    have hx0 : (0 : Int) <= (k : Int) := Int.natCast_nonneg _
    have hx1 : (k : Int) < (ss.length : Int) := by omega
    go_wp2_with (first | (go_at_call 112; refine HAdd.out.mono ?_; rintro e w5 ⟨a5, c5, rfl, hS5, hb5⟩))
    have hb6 := hbk.trans (hb5 w.heap.size (by omega) (by omega))
    go_roundw
    case rel => exact ⟨k + 1, a5, c5, hlt, by go_num, hS5, hb6⟩
    case measure => simp [intOf]; omega
  · obtain rfl : k = ss.length := by omega
    have z1 : decide ((ss.length : Int) < (ss.length : Int)) = false := by simp
    rw [List.take_length] at hSk
    go_wp2_with fail
    go_ret
    exact ⟨sb, r, a', c', rfl, hSk, hbk⟩
def encAt (es : List ByteArray) : Option Nat -> ByteArray
 | none => ⟨#[]⟩
 | some i => es.getD i ⟨#[]⟩
theorem stockFirst_any (sb r base wd : Nat) (es : List ByteArray) (a : Option Addr) (c : Nat) (hash : ByteArray) (w : World) (h : StockAt sb r base wd es a c w) (hs : ∀ j, (es.getD j ⟨#[]⟩).size <= 1048576) (hl : es.length <= 1048576) (h1 : wd <= 32) (h2 : hash.size = wd) (fx : Option Nat) (hfx : firstI (hitB wd es hash) es.length = fx) :
 Calls prog 178 #[.pointer (some ⟨sb, 0, none⟩), .string hash] w fun e w' => e = .returned (.tuple #[.string (encAt es fx), .bool fx.isSome]) /\ Below w.heap.size w w' := by
 have hpl : placesF wd es es.length (cutW wd hash.data.toList) = fx.map fun i => (i : Int) := by
  rw [placesF_first, <- hfx, show (fun i => decide (keyW wd (es.getD i ⟨#[]⟩) = cutW wd hash.data.toList)) = hitB wd es hash from funext fun i => key_hit wd es hash h1 h2 i]
 have hlt : ∀ i, fx = some i -> i < es.length := fun i hi => firstI_lt (hfx.trans hi)
 have hblk := h.blk
 have hM := h.map
 have hsa := own_sarg h.own hl hs
 have hbl := (Array.getElem?_eq_some_iff.1 hblk).1
 have HF := find_any wd r _ hash w hM h1 h2
 rw [hpl] at HF
 have c1 := ZC hblk 1
 have c2 := ZC hblk 2
 cases fx with
 | none =>
  have HF' : Hid (Calls prog 185 #[.agg #[.int .i64 (wd : Int), .map (some r)], .string hash] w fun e w' => e = .returned (.tuple #[.int .i64 0, .bool false]) /\ Below w.heap.size w w') := HF
  clear HF hpl hfx h hM hsa
  go_enter func178, ntmps178
  go_wp2_with (first | (go_at_call 185; refine HF'.out.mono ?_; rintro e w1 ⟨rfl, hb1⟩))
  go_ret2
  exact ⟨rfl, hb1⟩
 | some i =>
  have HF' : Hid (Calls prog 185 #[.agg #[.int .i64 (wd : Int), .map (some r)], .string hash] w fun e w' => e = .returned (.tuple #[.int .i64 (i : Int), .bool true]) /\ Below w.heap.size w w') := HF
  have hil := hlt i rfl
  obtain ⟨b, off, rfl, hbb, hcs⟩ := hsa.at_ (by omega)
  have hcx := hcs i hil
  have HE : Hid (encAt es (some i) = es.getD i ⟨#[]⟩) := rfl
  obtain ⟨x, hx⟩ : ∃ x, es.getD i ⟨#[]⟩ = x := ⟨_, rfl⟩
  rw [hx] at hcx HE
  obtain ⟨m, hm⟩ : ∃ m, es.length = m := ⟨_, rfl⟩
  rw [hm] at hblk
  have hx0 : (0 : Int) <= (i : Int) := Int.natCast_nonneg _
  have hx1 : (i : Int) < (m : Int) := by omega
  obtain ⟨y, hy⟩ : ∃ y, encAt es (some i) = y := ⟨_, rfl⟩
  have hyx : Hid (y = x) := by show y = x; rw [<- hy]; exact HE.out
  rw [hy]
  clear HF hpl hfx h hM hcs hx hy HE
  go_enter func178, ntmps178
  go_wp2_with (first | (go_at_call 185; refine HF'.out.mono ?_; rintro e w1 ⟨rfl, hb1⟩; have hbk1 := (hb1.block sb hbl).trans hblk; have d0 := ZC hbk1 0; have d1 := (hb1.cell (p := ⟨b, off + i, none⟩) hbb).trans hcx))
  go_ret2
  exact ⟨by rw [hyx.out]; rfl, hb1⟩
theorem stockFind_any (D : Dec) (sb r base wd : Nat) (HD : Hid (DecSaid 181 wd D)) (es : List ByteArray) (a : Option Addr) (c : Nat) (hash : ByteArray) (w : World) (h : StockAt sb r base wd es a c w) (hs : ∀ j, (es.getD j ⟨#[]⟩).size <= 1048576) (hl : es.length <= 1048576) (h1 : wd <= 32) (h2 : hash.size = wd) :
 Calls prog 176 #[.pointer (some ⟨sb, 0, none⟩), .string hash] w fun e w' => e = .returned (nodeT (foundR D es (firstI (hitB wd es hash) es.length))) /\ Below w.heap.size w w' := by
 obtain ⟨fx, hfx⟩ : ∃ fx, firstI (hitB wd es hash) es.length = fx := ⟨_, rfl⟩
 rw [hfx]
 have HF : Hid (∀ w', Below w.heap.size w w' -> Calls prog 178 #[.pointer (some ⟨sb, 0, none⟩), .string hash] w' fun e w'' => e = .returned (.tuple #[.string (encAt es fx), .bool fx.isSome]) /\ Below w'.heap.size w' w'') := fun w' hb => stockFirst_any sb r base wd es a c hash w' (h.below hb) hs hl h1 h2 fx hfx
 have hblk := h.blk
 have hbl := (Array.getElem?_eq_some_iff.1 hblk).1
 have hbA : Below w.heap.size w (w.alloc (.cells #[.string ⟨#[]⟩, .string ⟨#[]⟩, .string ⟨#[]⟩, .string ⟨#[]⟩] 128)) := (Below.refl _ _).alloc (Nat.le_refl _) _
 have nB : NBk w.heap.size ⟨#[]⟩ ⟨#[]⟩ ⟨#[]⟩ ⟨#[]⟩ (w.alloc (.cells #[.string ⟨#[]⟩, .string ⟨#[]⟩, .string ⟨#[]⟩, .string ⟨#[]⟩] 128)) := heap_alloc_new w _
 obtain ⟨gb, hgb⟩ : ∃ gb, w.heap.size = gb := ⟨_, rfl⟩
 rw [hgb] at nB
 have hfin : ∀ (W : World) (x y z u : ByteArray), Below w.heap.size w W -> Below w.heap.size w ((((W.setCell ⟨gb, 0, none⟩ (.string x)).setCell ⟨gb, 1, none⟩ (.string y)).setCell ⟨gb, 2, none⟩ (.string z)).setCell ⟨gb, 3, none⟩ (.string u)) := fun W x y z u hW => by
  have hge : w.heap.size <= gb := by omega
  exact (((hW.setCell (p := ⟨gb, 0, none⟩) hge _).setCell (p := ⟨gb, 1, none⟩) hge _).setCell (p := ⟨gb, 2, none⟩) hge _).setCell (p := ⟨gb, 3, none⟩) hge _
 replace hfin : Hid _ := hfin
 cases fx with
 | none =>
  unfold foundR
  clear h hfx
  go_enter func176, ntmps176
  go_upto_region 1 with fail
  try rw [hgb]
  generalize w.alloc (.cells #[.string ⟨#[]⟩, .string ⟨#[]⟩, .string ⟨#[]⟩, .string ⟨#[]⟩] 128) = wa at hbA nB ⊢
  go_upto_region 3 with (first | (go_at_call 178; refine (HF.out _ hbA).mono ?_; rintro e w1 ⟨rfl, hb1⟩))
  have nB1 := nB.below hb1
  have hb2 := hbA.trans (hb1.mono hbA.size)
  obtain ⟨c0, c1, c2, c3, f0, f1, f2, f3⟩ := nB1.at
  go_wp2_with fail
  exact retN Tryz.results176 rfl rfl rfl (nB1.all _ _ _ _) ⟨rfl, hfin.out _ _ _ _ _ hb2⟩
 | some i =>
  have hsz : (es.getD i ⟨#[]⟩).size <= 1048576 := hs i
  have hfr : foundR D es (some i) = if D.ok (es.getD i ⟨#[]⟩) then ((D.k (es.getD i ⟨#[]⟩), D.v (es.getD i ⟨#[]⟩), D.l (es.getD i ⟨#[]⟩), D.r (es.getD i ⟨#[]⟩)), 0) else ((⟨#[]⟩, ⟨#[]⟩, ⟨#[]⟩, ⟨#[]⟩), 3) := rfl
  rw [hfr]
  have HF2 : Hid (∀ w', Below w.heap.size w w' -> Calls prog 178 #[.pointer (some ⟨sb, 0, none⟩), .string hash] w' fun e w'' => e = .returned (.tuple #[.string (es.getD i ⟨#[]⟩), .bool true]) /\ Below w'.heap.size w' w'') := HF
  generalize es.getD i ⟨#[]⟩ = s at hsz HF2 ⊢
  have HDx : Hid (∀ w', Calls prog 181 #[.string s, .int .i64 (wd : Int)] w' fun e w'' => e = .returned (.tuple #[.agg #[.string (D.k s), .string (D.v s), .string (D.l s), .string (D.r s)], .bool (D.ok s)]) /\ Below w'.heap.size w' w'') := fun w' => HD.out s w' hsz
  clear hfr HF h hfx HD
  generalize D.k s = xk at HDx ⊢
  generalize D.v s = xv at HDx ⊢
  generalize D.l s = xl at HDx ⊢
  generalize D.r s = xr at HDx ⊢
  cases hok : D.ok s with
  | false =>
   rw [hok] at HDx
   rw [if_neg (by decide)]
   clear hok
   go_enter func176, ntmps176
   go_upto_region 1 with fail
   try rw [hgb]
   generalize w.alloc (.cells #[.string ⟨#[]⟩, .string ⟨#[]⟩, .string ⟨#[]⟩, .string ⟨#[]⟩] 128) = wa at hbA nB ⊢
   go_upto_region 4 with (first | (go_at_call 178; refine (HF2.out _ hbA).mono ?_; rintro e w1 ⟨rfl, hb1⟩))
   have nB1 := nB.below hb1
   have hb2 := hbA.trans (hb1.mono hbA.size)
   have d1 := ZC ((hb2.block sb hbl).trans hblk) 1
   go_upto_region 6 with (first | (go_at_call 181; refine (HDx.out _).mono ?_; rintro e w2 ⟨rfl, hb3⟩))
   have hb4 := hb2.trans (hb3.mono hb2.size)
   have al : Below w2.heap.size w2 (w2.alloc (.cells #[.string xk, .string xv, .string xl, .string xr] 128)) := (Below.refl _ _).alloc (Nat.le_refl _) _
   have nB2 := (nB1.below hb3).below al
   have hb5 := hb4.trans (al.mono hb4.size)
   generalize w2.alloc (.cells #[.string xk, .string xv, .string xl, .string xr] 128) = w3 at nB2 hb5 ⊢
   clear d1 al
   obtain ⟨c0, c1, c2, c3, f0, f1, f2, f3⟩ := nB2.at
   go_wp2_with fail
   exact retN Tryz.results176 rfl rfl rfl (nB2.all _ _ _ _) ⟨rfl, hfin.out _ _ _ _ _ hb5⟩
  | true =>
   rw [hok] at HDx
   rw [if_pos rfl]
   clear hok
   go_enter func176, ntmps176
   go_upto_region 1 with fail
   try rw [hgb]
   generalize w.alloc (.cells #[.string ⟨#[]⟩, .string ⟨#[]⟩, .string ⟨#[]⟩, .string ⟨#[]⟩] 128) = wa at hbA nB ⊢
   go_upto_region 4 with (first | (go_at_call 178; refine (HF2.out _ hbA).mono ?_; rintro e w1 ⟨rfl, hb1⟩))
   have nB1 := nB.below hb1
   have hb2 := hbA.trans (hb1.mono hbA.size)
   have d1 := ZC ((hb2.block sb hbl).trans hblk) 1
   go_upto_region 7 with (first | (go_at_call 181; refine (HDx.out _).mono ?_; rintro e w2 ⟨rfl, hb3⟩))
   have hb4 := hb2.trans (hb3.mono hb2.size)
   have al : Below w2.heap.size w2 (w2.alloc (.cells #[.string xk, .string xv, .string xl, .string xr] 128)) := (Below.refl _ _).alloc (Nat.le_refl _) _
   have nX : NBk w2.heap.size xk xv xl xr (w2.alloc (.cells #[.string xk, .string xv, .string xl, .string xr] 128)) := heap_alloc_new w2 _
   have nB2 := (nB1.below hb3).below al
   have hb5 := hb4.trans (al.mono hb4.size)
   obtain ⟨gx, hgx⟩ : ∃ gx, w2.heap.size = gx := ⟨_, rfl⟩
   rw [hgx] at nX
   try rw [hgx]
   generalize w2.alloc (.cells #[.string xk, .string xv, .string xl, .string xr] 128) = w3 at nB2 hb5 nX ⊢
   clear d1 al
   obtain ⟨e0, e1, e2, e3, _, _, _, _⟩ := nX.at
   obtain ⟨c0, c1, c2, c3, f0, f1, f2, f3⟩ := nB2.at
   go_wp2_with fail
   exact retN Tryz.results176 rfl rfl rfl (nB2.all _ _ _ _) ⟨rfl, hfin.out _ _ _ _ _ hb5⟩
abbrev KT (w : World) : Prop := ∀ j, j < 64 -> w.cell? ⟨0, j, none⟩ = some (.int .u32 ((kTab.getD j 0).toNat : Int))
theorem KT.below {w w' : World} (h : KT w) (hb : Below w.heap.size w w') : KT w' := fun j hj => by
 have hl0 : 0 < w.heap.size := World.block_lt_of_cell? w _ (h 0 (by omega))
 exact (hb.cell (by exact hl0)).trans (h j hj)
def hashS (k v l r : ByteArray) (n : Int) : ByteArray := if (encS k v l r n).size = 0 then ⟨#[]⟩ else ⟨((sha (78 :: (encS k v l r n).data.toList)).take n.toNat).toArray⟩
theorem encS_size (k v l r : ByteArray) (n : Int) : (encS k v l r n).size <= 10000 /\ (¬ (encS k v l r n).size = 0 -> 1 <= n /\ n <= 32) := by
 unfold encS
 split
 · rename_i h
   have ho := nodeOk_out h
   rw [T_size]
   unfold encL
   simp only [List.length_append, sized_length, List.length_cons, List.length_nil]
   have e1 : k.data.toList.length = k.size := rfl
   have e2 : v.data.toList.length = v.size := rfl
   have e3 : l.data.toList.length = l.size := rfl
   have e4 : r.data.toList.length = r.size := rfl
   omega
 · exact ⟨Nat.zero_le _, fun h => absurd rfl h⟩
theorem text_any (e : ByteArray) (w : World) (he : e.size <= 10000) :
 Calls prog 50 #[.string e] w fun x w' => ∃ t : ByteArray, x = .returned (.string t) /\ t.size <= 10001 /\ Hid (t.data.toList = 78 :: e.data.toList) /\ w = w' := by
 have z : ¬ (9223372036854775807 < (⟨#[78]⟩ : ByteArray).size + e.size) := by show ¬ _ < 1 + e.size; omega
 have z' : ¬ (9223372036854775807 < 1 + e.size) := by omega
 go_enter func50, ntmps50
 go_wp2
 go_ret
 refine ⟨_, rfl, ?_, ?_, rfl⟩
 · rw [ByteArray.size_append]; show 1 + e.size <= _; omega
 · show (_ : List UInt8) = _
   rw [ByteArray.data_append]
   simp
theorem row_take {w : World} {base g n cap : Nat} {xs : List Value} (h : Row w base g n cap xs) (k : Nat) (hk : k <= n) : Row w base g k cap (xs.take k) :=
 ⟨h.ge, h.lt, by rw [List.length_take, h.len]; exact Nat.min_eq_left hk, Nat.le_trans hk h.le, fun j hj => by rw [h.cell j (by omega), List.getElem?_take, if_pos hj], h.room, h.free⟩
theorem ehash_any (s : ByteArray) (w : World) (hs : s.size <= 1048576)
 (hK : ∀ j, j < 64 -> w.cell? ⟨0, j, none⟩ = some (.int .u32 ((kTab.getD j 0).toNat : Int))) :
 Calls prog 167 #[.string s] w fun e w' => e = .returned (.agg ((sha (78 :: s.data.toList)).map B).toArray) /\ Below w.heap.size w w' := by
 have hl0 : 0 < w.heap.size := World.block_lt_of_cell? w _ (hK 0 (by omega))
 have HK : Hid (∀ w' : World, Below w.heap.size w w' -> ∀ j, j < 64 -> w'.cell? ⟨0, j, none⟩ = some (.int .u32 ((kTab.getD j 0).toNat : Int))) := fun w' hb j hj => (hb.cell (by exact hl0)).trans (hK j hj)
 clear hK
 have hsl : (78 :: s.data.toList).length = 1 + s.size := by rw [List.length_cons]; show s.size + 1 = _; omega
 go_enter func167, ntmps167
 go_wp2_with (refine wpList_alloc_row _ rfl (some 2) rfl 116 116 rfl (zeros8.map B) alloc32 ?_; intro g2 w2 hr2 hb2)
 have hr2' : Row w2 w.heap.size g2 32 32 (zeros8.map B) := hr2
 have hge := hr2.ge
 have hlt := hr2.lt
 have hs2 := hb2.size
 clear hr2
 refine (new_any w2).mono ?_
 rintro e w3 ⟨rfl, hw3⟩
 have F3 : Fed w3 w2.heap.size [] (List.replicate 64 0) 0 := by rw [hw3]; exact fed_new w2
 have hb3 : Below w2.heap.size w2 w3 := by rw [hw3]; exact (Below.refl _ _).alloc (Nat.le_refl _) _
 clear hw3
 obtain ⟨b, hb⟩ : ∃ b, w2.heap.size = b := ⟨_, rfl⟩
 rw [hb] at F3
 rw [hb]
 have hs3 := hb3.size
 have hbw3 : Below w.heap.size w w3 := hb2.trans (hb3.mono hs2)
 have hR3 : Row w3 w.heap.size g2 32 32 (zeros8.map B) := hr2'.below hb3
 have hb0 : b ≠ 0 := by omega
 have hgb : g2 < b := by omega
 have hwb : w.heap.size <= b := by omega
 clear hr2' hb3 hb2
 go_wp2_with fail
 refine (feed_any b [] (List.replicate 64 0) ⟨#[78]⟩ w3 F3 (by simp; show 1 <= _; omega) hb0 (HK.out w3 hbw3)).mono ?_
 rintro e w3' ⟨rfl, ⟨k3, F3'⟩, hg3⟩
 have hs3' := hg3.size
 have hbw3' : Below w.heap.size w w3' := hbw3.trans (below_of_grown hg3 hwb (by omega))
 have hR3' : Row w3' w.heap.size g2 32 32 (zeros8.map B) := hR3.kept hg3 (by simp; omega)
 have F3n : Fed w3' b [78] k3 [78].length := F3'
 clear F3 F3' hg3 hR3 hbw3
 go_wp2_with fail
 refine (feed_any b [78] k3 s w3' F3n (by simp; omega) hb0 (HK.out w3' hbw3')).mono ?_
 rintro e w4 ⟨rfl, ⟨k4, F4⟩, hg4⟩
 have hs4 := hg4.size
 have hbw4 : Below w.heap.size w w4 := hbw3'.trans (below_of_grown hg4 hwb (by omega))
 have hR4 : Row w4 w.heap.size g2 32 32 (zeros8.map B) := hR3'.kept hg4 (by simp; omega)
 have F4n : Fed w4 b (78 :: s.data.toList) k4 (1 + s.size) := F4
 clear F3n F4 hg4 hR3' hbw3'
 have hfs := fin_sha (78 :: s.data.toList) k4 F4n.H.kl F4n.tk
 have H4 := F4n.H
 rw [hsl] at H4 hfs
 clear F4n
 go_wp2_with fail
 refine (finish_any b _ k4 _ (1 + s.size) w4 H4 (by omega) (by omega) hb0 (HK.out w4 hbw4)).mono ?_
 rintro e w5 ⟨rfl, hg5⟩
 rw [hfs]
 clear hfs H4
 have hbw5 : Below w.heap.size w w5 := hbw4.trans (below_of_grown hg5 hwb (by omega))
 have hR5 : Row w5 w.heap.size g2 32 32 (zeros8.map B) := hR4.kept hg5 (by simp; omega)
 have hln : ((sha (78 :: s.data.toList)).map B).length = 32 := by rw [List.length_map]; unfold sha; rw [outTo_length]
 have h1c : ∀ v ∈ (sha (78 :: s.data.toList)).map B, v.oneCell' = true := by
  intro v hv
  obtain ⟨x, _, rfl⟩ := List.mem_map.1 hv
  rfl
 obtain ⟨L, hL⟩ : ∃ L, (sha (78 :: s.data.toList)).map B = L := ⟨_, rfl⟩
 rw [hL] at hln h1c
 rw [hL]
 have HL : Hid ((sha (78 :: s.data.toList)).map B = L) := hL
 clear hL
 go_wp2_with (refine wpList_store_whole _ rfl rfl 116 (.tmp 2) (.tmp 11) rfl w.heap.size g2 32 (zeros8.map B) L rfl rfl hR5 hln size32 h1c ?_; intro w8 hR8 hg8)
 refine ret_row _ (p := 2) (ty := 116) rfl w.heap.size g2 32 32 L 5 rfl hR8 Tryz.underlying116 size32 rfl ?_
 refine ⟨?_, ?_⟩
 · rw [HL.out]
 · exact hbw5.trans (below_of_grown hg8 hge (by have := hbw5.size; omega))
def Rd (r : Nat) (s : ByteArray) (a : Nat) (f : Bool) (w : World) : Prop := w.heap[r]? = some (.cells #[.string s, .int .i64 (a : Int), .bool f] 243)
structure Mv (r : Nat) (w w' : World) : Prop where
 os : w'.os = w.os
 tape : w'.tape = w.tape
 output : w'.output = w.output
 size : w.heap.size <= w'.heap.size
 block : ∀ k, k < w.heap.size -> k ≠ r -> w'.heap[k]? = w.heap[k]?
theorem Mv.refl (r : Nat) (w : World) : Mv r w w := ⟨rfl, rfl, rfl, Nat.le_refl _, fun _ _ _ => rfl⟩
theorem Mv.trans {r : Nat} {a b c : World} (h : Mv r a b) (k : Mv r b c) : Mv r a c :=
 ⟨k.os.trans h.os, k.tape.trans h.tape, k.output.trans h.output, Nat.le_trans h.size k.size, fun i hi hr => (k.block i (Nat.lt_of_lt_of_le hi h.size) hr).trans (h.block i hi hr)⟩
theorem Mv.of_below {w w' : World} (r : Nat) (h : Below w.heap.size w w') : Mv r w w' := ⟨h.os, h.tape, h.output, h.size, fun k hk _ => h.block k hk⟩
theorem Mv.to_below {r B : Nat} {w w' : World} (h : Mv r w w') (hB : B <= w.heap.size) (hr : B <= r) : Below B w w' := ⟨h.os, h.tape, h.output, h.size, fun k hk => h.block k (Nat.lt_of_lt_of_le hk hB) (by omega)⟩
theorem Mv.alloc {r : Nat} {a w : World} (h : Mv r a w) (o : Obj) : Mv r a (w.alloc o) := h.trans (Mv.of_below r ((Below.refl _ _).alloc (Nat.le_refl _) _))
theorem Mv.drew {r : Nat} {a w : World} (h : Mv r a w) : Mv r a w.drew := ⟨h.os, h.tape, h.output, h.size, h.block⟩
theorem Mv.setCell {r : Nat} {a w : World} (h : Mv r a w) (i : Nat) (v : Value) : Mv r a (w.setCell ⟨r, i, none⟩ v) :=
 ⟨h.os, h.tape, h.output, by rw [show (w.setCell ⟨r, i, none⟩ v).heap.size = w.heap.size by simp [World.setCell]]; exact h.size, fun k hk hr => (heap_setCell_other w ⟨r, i, none⟩ k v hr).trans (h.block k hk hr)⟩
theorem Mv.cells {r k : Nat} {w w' : World} {o : Obj} (h : Mv r w w') (hk : w.heap[k]? = some o) (hr : k ≠ r) : w'.heap[k]? = some o :=
 (h.block k (Array.getElem?_eq_some_iff.1 hk).1 hr).trans hk
theorem Rd.lt {r : Nat} {s : ByteArray} {a : Nat} {f : Bool} {w : World} (h : Rd r s a f w) : r < w.heap.size := (Array.getElem?_eq_some_iff.1 h).1
theorem Rd.below {r : Nat} {s : ByteArray} {a : Nat} {f : Bool} {w w' : World} (h : Rd r s a f w) (hb : Below w.heap.size w w') : Rd r s a f w' := below_cells hb h
theorem Rd.alloc {r : Nat} {s : ByteArray} {a : Nat} {f : Bool} {w : World} (h : Rd r s a f w) (o : Obj) : Rd r s a f (w.alloc o) := h.below ((Below.refl _ _).alloc (Nat.le_refl _) _)
theorem Rd.drew {r : Nat} {s : ByteArray} {a : Nat} {f : Bool} {w : World} (h : Rd r s a f w) : Rd r s a f w.drew := h
theorem Rd.setF {r : Nat} {s : ByteArray} {a : Nat} {f : Bool} {w : World} (h : Rd r s a f w) (g : Bool) : Rd r s a g (w.setCell ⟨r, 2, none⟩ (.bool g)) := heap_setCell_same w r 2 _ 243 _ h
theorem Rd.setA {r : Nat} {s : ByteArray} {a : Nat} {f : Bool} {w : World} (h : Rd r s a f w) (b : Nat) : Rd r s b f (w.setCell ⟨r, 1, none⟩ (.int .i64 (b : Int))) := heap_setCell_same w r 1 _ 243 _ h
theorem frozen_of_heap {w : World} {k j : Nat} {cs : Array Value} {t : TypeId} (h : w.heap[k]? = some (.cells cs t)) : w.frozen? ⟨k, j, none⟩ = false := by rw [World.frozen?, h]; rfl
theorem fail_any (r : Nat) (s : ByteArray) (a : Nat) (f : Bool) (w : World) (h : Rd r s a f w) :
 Calls prog 216 #[.pointer (some ⟨r, 0, none⟩)] w fun e w' => e = .returned (.tuple #[]) /\ Rd r s a true w' /\ Mv r w w' := by
 have c2 : w.cell? ⟨r, 2, none⟩ = some (.bool f) := ZC h 2
 have f2 : w.frozen? ⟨r, 2, none⟩ = false := frozen_of_heap h
 go_enter func216, ntmps216
 go_wp2
 go_end0
 exact ⟨rfl, h.setF true, (Mv.refl r w).setCell 2 _⟩
def NX (s : ByteArray) (a : Nat) (f : Bool) (n : Nat) (t : ByteArray) (a' : Nat) (f' : Bool) : Prop :=
 (f = false /\ a + n <= s.size /\ t = s.extract a (a + n) /\ a' = a + n /\ f' = false) \/ ((f = true \/ ¬ a + n <= s.size) /\ t = ⟨#[]⟩ /\ a' = a /\ f' = true)
theorem next_any (r : Nat) (s : ByteArray) (a : Nat) (f : Bool) (n : Nat) (w : World) (h : Rd r s a f w) (ha : a <= s.size) (hs : s.size <= 1048576) (hn : n <= 4294967296) :
 Calls prog 223 #[.pointer (some ⟨r, 0, none⟩), .int .i64 (n : Int)] w fun e w' => ∃ t a' f', e = .returned (.string t) /\ Hid (NX s a f n t a' f') /\ a' <= s.size /\ t.size <= s.size /\ Rd r s a' f' w' /\ Mv r w w' := by
 have c0 : w.cell? ⟨r, 0, none⟩ = some (.string s) := ZC h 0
 have c1 : w.cell? ⟨r, 1, none⟩ = some (.int .i64 (a : Int)) := ZC h 1
 have c2 : w.cell? ⟨r, 2, none⟩ = some (.bool f) := ZC h 2
 have f1 : w.frozen? ⟨r, 1, none⟩ = false := frozen_of_heap h
 cases f
 · by_cases h1 : a + n <= s.size
   · have z1 : decide ((s.size : Int) - (a : Int) < (n : Int)) = false := by simp; omega
     have z2 : IntKind.i64.wrap ((s.size : Int) - (a : Int)) = (s.size : Int) - (a : Int) := wrap_i64_in _ (by omega) (by omega)
     go_enter func223, ntmps223
     go_wp2_with fail
     go_region_held3 (fun W => W.cell? ⟨r, 0, none⟩ = some (.string s) /\ W.cell? ⟨r, 1, none⟩ = some (.int .i64 (a : Int)) /\ W.cell? ⟨r, 2, none⟩ = some (.bool false)) (exact ⟨c0, c1, c2⟩) (fail)
     go_wp2_with fail
     have z3 : IntKind.i64.wrap ((a : Int) + (n : Int)) = (a : Int) + (n : Int) := wrap_i64_in _ (by omega) (by omega)
     have y1 : (0 : Int) <= (a : Int) := by omega
     have y2 : (a : Int) <= (a : Int) + (n : Int) := by omega
     have y3 : (a : Int) + (n : Int) <= (s.size : Int) := by omega
     go_region_held3 (fun W => W.cell? ⟨r, 0, none⟩ = some (.string s) /\ W.cell? ⟨r, 1, none⟩ = some (.int .i64 (a : Int))) (exact ⟨c0, c1⟩) (fail)
     go_wp2
     go_ret
     have e1 : ((a : Int) + (n : Int)).toNat = a + n := by omega
     have e2 : ((a : Int) + (n : Int)) = ((a + n : Nat) : Int) := by omega
     rw [e1, e2]
     refine ⟨_, a + n, false, rfl, .inl ⟨rfl, h1, rfl, rfl, rfl⟩, h1, ?_, h.setA (a + n), ((Mv.refl r w).setCell 1 _).drew.drew⟩
     rw [ByteArray.size_extract]; omega
   · have z1 : decide ((s.size : Int) - (a : Int) < (n : Int)) = true := by simp; omega
     have z2 : IntKind.i64.wrap ((s.size : Int) - (a : Int)) = (s.size : Int) - (a : Int) := wrap_i64_in _ (by omega) (by omega)
     go_enter func223, ntmps223
     go_wp2_with fail
     go_region_held3 (fun W => W.cell? ⟨r, 0, none⟩ = some (.string s) /\ W.cell? ⟨r, 1, none⟩ = some (.int .i64 (a : Int)) /\ W.cell? ⟨r, 2, none⟩ = some (.bool false)) (exact ⟨c0, c1, c2⟩) (fail)
     go_wp2_with (first | (go_at_call 216; refine (fail_any r s a false _ h.drew).mono ?_; rintro e w2 ⟨rfl, hr2, hm2⟩))
     go_ret
     exact ⟨_, _, _, rfl, .inr ⟨.inr h1, rfl, rfl, rfl⟩, ha, Nat.zero_le _, hr2, (Mv.refl r w).drew.trans hm2⟩
 · go_enter func223, ntmps223
   go_wp2_with fail
   go_region
   go_wp2_with (first | (go_at_call 216; refine (fail_any r s a true _ h.drew).mono ?_; rintro e w2 ⟨rfl, hr2, hm2⟩))
   go_ret
   exact ⟨_, _, _, rfl, .inr ⟨.inl rfl, rfl, rfl, rfl⟩, ha, Nat.zero_le _, hr2, (Mv.refl r w).drew.trans hm2⟩
theorem i64_or_nat (a b : Nat) (ha : a < 4294967296) (hb : b < 4294967296) : bits .or .i64 (a : Int) (b : Int) = ((a ||| b : Nat) : Int) := by
 have hx : a ||| b < 2 ^ 32 := Nat.or_lt_two_pow (by omega) (by omega)
 show IntKind.i64.wrap ((BitVec.ofInt 64 (a : Int) ||| BitVec.ofInt 64 (b : Int)).toNat : Int) = _
 rw [BitVec.toNat_or, ofInt_u64 a (by omega), ofInt_u64 b (by omega)]
 exact wrap_i64_in _ (by omega) (by omega)
theorem i64_and_nat (a b : Nat) (ha : a < 4294967296) (hb : b < 4294967296) : bits .and .i64 (a : Int) (b : Int) = ((a &&& b : Nat) : Int) := by
 have hx : a &&& b < 2 ^ 32 := Nat.and_lt_two_pow _ (by omega)
 show IntKind.i64.wrap ((BitVec.ofInt 64 (a : Int) &&& BitVec.ofInt 64 (b : Int)).toNat : Int) = _
 rw [BitVec.toNat_and, ofInt_u64 a (by omega), ofInt_u64 b (by omega)]
 exact wrap_i64_in _ (by omega) (by omega)
def valTo (z : Nat) (low : Bool) (b : Nat -> Nat) : Nat -> Nat
 | 0 => 0
 | i + 1 => valTo z low b i ||| b i * 2 ^ (8 * (if low then i else z - 1 - i))
theorem piece_lt (m k : Nat) (hm : m < 256) (hk : k <= 24) : m * 2 ^ k < 4294967296 := by
 have h1 : 2 ^ k <= 2 ^ 24 := Nat.pow_le_pow_right (by omega) hk
 have h2 : m * 2 ^ k <= 255 * 2 ^ 24 := Nat.mul_le_mul (by omega) h1
 have h3 : 255 * 2 ^ 24 < 4294967296 := by decide
 omega
theorem valTo_lt (z : Nat) (low : Bool) (b : Nat -> Nat) (hb : ∀ i, b i < 256) (hz : z <= 4) : ∀ i, i <= z -> valTo z low b i < 4294967296
 | 0, _ => by rw [valTo]; omega
 | i + 1, hi => by
  rw [valTo]
  have h1 := valTo_lt z low b hb hz i (by omega)
  have h2 := piece_lt (b i) (8 * (if low then i else z - 1 - i)) (hb i) (by split <;> omega)
  have := Nat.or_lt_two_pow (n := 32) (x := valTo z low b i) (y := b i * 2 ^ (8 * (if low then i else z - 1 - i))) (by omega) (by omega)
  omega
def byteAt (t : ByteArray) (i : Nat) : Nat := (t.data.toList.getD i 0).toNat
theorem byteAt_lt (t : ByteArray) (i : Nat) : byteAt t i < 256 := UInt8.toNat_lt _
theorem ntake (z : Nat) (low : Bool) (r : Nat) (s : ByteArray) (a : Nat) (f : Bool) (w : World) (h : Rd r s a f w) (ha : a <= s.size) (hs : s.size <= 1048576) (hz : 0 < z) (hz4 : z <= 4) :
 Calls prog 221 #[.agg #[.int .i64 (z : Int), .bool low], .pointer (some ⟨r, 0, none⟩)] w fun e w' => ∃ (v : Nat) (t : ByteArray) (a' : Nat) (f' : Bool), e = .returned (.int .i64 (v : Int)) /\ Hid (NX s a f z t a' f') /\ Hid (v = valTo z low (byteAt t) t.size) /\ a' <= s.size /\ v < 4294967296 /\ Rd r s a' f' w' /\ Mv r w w' := by
 have hlt := h.lt
 have HN : Hid (∀ w', Rd r s a f w' -> Calls prog 223 #[.pointer (some ⟨r, 0, none⟩), .int .i64 (z : Int)] w' fun e w'' => ∃ t a' f', e = .returned (.string t) /\ Hid (NX s a f z t a' f') /\ a' <= s.size /\ t.size <= s.size /\ Rd r s a' f' w'' /\ Mv r w' w'') := fun w' h' => next_any r s a f z w' h' ha hs (by omega)
 go_enter func221, ntmps221
 go_wp2_with (first | (go_at_call 223; refine (HN.out _ (h.alloc _)).mono ?_; rintro e w1 ⟨t, a', f', rfl, HX, ha', ht, hr1, hm1⟩) | (refine wpList_bytes_row _ rfl (.tmp 11) 9 22 5 rfl t rfl Tryz.underlying9 Tryz.underlying22 Tryz.underlying5 ?_; intro g cap w2 hrow hb2))
 have hn1 := hm1.cells (heap_alloc_new w (.cells #[.int .i64 (z : Int), .bool low] 263)) (by omega)
 have hn2 := below_cells hb2 hn1
 have hr2 := hr1.below hb2
 have hm2 : Mv r w w2 := (((Mv.refl r w).alloc _).trans hm1).trans (Mv.of_below r hb2)
 have htz : t.size <= z := by
  rcases HX.out with ⟨_, h2, h3, _⟩ | ⟨_, h3, _⟩
  · rw [h3, ByteArray.size_extract]; omega
  · rw [h3]; exact Nat.zero_le _
 have HB := byteAt_lt t
 have HVL : Hid (∀ i, i <= z -> valTo z low (byteAt t) i < 4294967296) := fun i hi => valTo_lt z low (byteAt t) HB hz4 i hi
 have HRow : Hid (∀ W, Below w2.heap.size w2 W -> ∀ i, i < t.size -> W.cell? ⟨g, i, none⟩ = some (.int .u8 (byteAt t i : Int))) := by
  intro W hW i hi
  rw [(hrow.below hW).cell i hi, List.getElem?_map, List.getElem?_eq_getElem (by exact hi)]
  unfold byteAt
  rw [List.getD_eq_getElem?_getD, List.getElem?_eq_getElem (by exact hi)]
  rfl
 clear hb2 hrow hn1 hm1 hr1 HN
 go_loopw [5, 14] (fun t5 t14 wr => ∃ i v : Nat, i <= t.size /\ t5 = .int .i64 (v : Int) /\ t14 = .int .i64 (i : Int) /\ Hid (v = valTo z low (byteAt t) i) /\ Below w2.heap.size w2 wr) (fun _ t14 _ => t.size - (intOf t14).toNat)
 case atStart => exact ⟨0, 0, Nat.zero_le _, rfl, rfl, rfl, Below.refl _ _⟩
 case round =>
  obtain ⟨i, v, hi, rfl, rfl, HV, hb⟩ := hrel
  by_cases h1 : i < t.size
  · have z1 : decide ((i : Int) < (t.size : Int)) = true := by simp; omega
    have y1 : (0 : Int) <= (i : Int) := by omega
    have y2 : (i : Int) < (t.size : Int) := by omega
    have cb := HRow.out wr hb i h1
    have hn := below_cells hb hn2
    have c0 : wr.cell? ⟨w.heap.size, 0, none⟩ = some (.int .i64 (z : Int)) := ZC hn 0
    have c1 : wr.cell? ⟨w.heap.size, 1, none⟩ = some (.bool low) := ZC hn 1
    obtain ⟨k, hk, hk24, hkb⟩ : ∃ k : Nat, sh z low i = (k : Int) /\ k <= 24 /\ k = 8 * (if low then i else z - 1 - i) := by
     unfold sh
     cases low
     · exact ⟨8 * (z - 1 - i), by simp only [Bool.false_eq_true, if_false]; omega, by omega, rfl⟩
     · exact ⟨8 * i, by simp only [if_true]; omega, by omega, rfl⟩
    have HC : Hid (∀ w', Calls prog 220 #[.agg #[.int .i64 (z : Int), .bool low], .int .i64 (i : Int)] w' fun e w'' => e = .returned (.int .i64 (k : Int)) /\ Below w'.heap.size w' w'') := fun w' => by rw [<- hk]; exact shift_any _ _ _ w' (by omega) (by omega) (by omega) (by omega)
    have k0 : (0 : Int) <= (k : Int) := by omega
    obtain ⟨m, hm⟩ : ∃ m, byteAt t i = m := ⟨_, rfl⟩
    have hm256 : m < 256 := by rw [<- hm]; exact HB i
    obtain ⟨q, hq⟩ : ∃ q, m * 2 ^ k = q := ⟨_, rfl⟩
    have hq32 : q < 4294967296 := by rw [<- hq]; exact piece_lt m k hm256 hk24
    have hv32 : v < 4294967296 := by rw [HV.out]; exact HVL.out i (by omega)
    have hw : IntKind.i64.wrap ((m : Int) * 2 ^ k) = (q : Int) := by
     rw [<- hq, wrap_i64_in]
     · rw [Int.natCast_mul, Int.natCast_pow]; rfl
     · have : (0 : Int) <= (m : Int) * 2 ^ k := Int.mul_nonneg (by omega) (Int.pow_nonneg (by omega))
       omega
     · have e : (m : Int) * 2 ^ k = (q : Int) := by rw [<- hq, Int.natCast_mul, Int.natCast_pow]; rfl
       omega
    obtain ⟨v', hv'⟩ : ∃ v', v ||| q = v' := ⟨_, rfl⟩
    have hor : bits .or .i64 (v : Int) (q : Int) = (v' : Int) := by rw [<- hv']; exact i64_or_nat v q hv32 hq32
    have HV' : Hid (v' = valTo z low (byteAt t) (i + 1)) := by show _ = _; rw [valTo, <- HV.out, hm, <- hkb, hq, hv']
    rw [hm] at cb
    clear hv' hq hkb hk hm
    go_wp2_with (first | (go_at_call 220; refine (HC.out _).mono ?_; rintro e w3 ⟨rfl, hb3⟩))
    refine ⟨⟨i + 1, v', by omega, rfl, congrArg (Value.int .i64) (by omega), HV', hb.trans (hb3.mono hb.size)⟩, ?_⟩
    show t.size - ((i : Int) + 1).toNat < t.size - ((i : Int)).toNat
    omega
  · have e : i = t.size := by omega
    have z1 : decide ((i : Int) < (t.size : Int)) = false := by simp; omega
    go_wp2_with fail
    go_ret
    have hv32 : v < 4294967296 := by rw [HV.out]; exact HVL.out i (by omega)
    subst e
    exact ⟨v, t, a', f', rfl, HX, HV, ha', hv32, hr2.below hb, hm2.trans (Mv.of_below r hb)⟩
end Go.Proofs.YtfmpjlpakldheaaGreatDoor
