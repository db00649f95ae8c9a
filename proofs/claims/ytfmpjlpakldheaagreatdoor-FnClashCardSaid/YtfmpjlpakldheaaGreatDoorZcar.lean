import Derived.Test.YtfmpjlpakldheaaGreatDoorZcaq
import Derived.Test.YtfmpjlpakldheaaGreatDoorZcao
import Derived.Test.YtfmpjlpakldheaaGreatDoorZcan
import Derived.Deep.RegionLaw
import Derived.Deep.MidRow
import Derived.Deep.AppendLies
import Derived.Shelf.Strings.BuilderF
import Derived.Shelf.Strings.BuilderK
import Derived.Shelf.Strconv.Clone
import Derived.Test.YtfmpjlpakldheaaGreatDoorProg
namespace Go.Proofs.YtfmpjlpakldheaaGreatDoor
open Go.RowKit Go.Proofs.Sha

/-- The keys of a list of pairs are apart. -/
def Apart (ps : List PairT) : Prop := ps.Pairwise fun p q => p.1 ≠ q.1
theorem Apart.ne {ps : List PairT} (h : Apart ps) : ∀ p ∈ ps, ∀ q ∈ ps, p ≠ q → p.1 ≠ q.1 := by
  induction ps with
  | nil => intro p hp; cases hp
  | cons x l ih =>
    obtain ⟨h1, h2⟩ := List.pairwise_cons.1 h
    intro p hp q hq hne
    rcases List.mem_cons.1 hp with rfl | hp' <;> rcases List.mem_cons.1 hq with rfl | hq'
    · exact absurd rfl hne
    · exact h1 q hq'
    · exact fun e => h1 p hp' e.symm
    · exact ih h2 p hp' q hq' hne
theorem getD_lt (ps : List PairT) (i : Nat) (hi : i < ps.length) : ps.getD i noPair = ps[i] := by
  rw [List.getD_eq_getElem?_getD, List.getElem?_eq_getElem hi]; rfl
theorem Apart.at_ {ps : List PairT} (h : Apart ps) (i j : Nat) (hi : i < ps.length) (hj : j < ps.length) (hne : i ≠ j) : ps.getD i noPair ≠ ps.getD j noPair := by
  rw [getD_lt _ _ hi, getD_lt _ _ hj]
  have hp := List.pairwise_iff_getElem.1 h
  intro e
  rcases Nat.lt_or_gt_of_ne hne with q | q
  · exact hp i j hi hj q (by rw [e])
  · exact hp j i hj hi q (by rw [e])
/-- The tree as the model cuts it. -/
def cutTree (ps : List PairT) : Tr PairT :=
  if h : 0 < ps.length then
    .node (cutTree (ps.take (topTo ps (ps.length - 1)))) (ps.getD (topTo ps (ps.length - 1)) noPair) (cutTree (ps.drop (topTo ps (ps.length - 1) + 1)))
  else .nil
termination_by ps.length
decreasing_by
  · have := topTo_le ps (ps.length - 1); rw [List.length_take]; omega
  · rw [List.length_drop]; omega
theorem cut_at (ps : List PairT) (t : Nat) (ht : t < ps.length) : ps.take t ++ ps.getD t noPair :: ps.drop (t + 1) = ps := by
  rw [getD_lt _ _ ht, ← List.drop_eq_getElem_cons ht, List.take_append_drop]
theorem cutTree_inord (ps : List PairT) : (cutTree ps).inord = ps := by
  induction hn : ps.length using Nat.strongRecOn generalizing ps with
  | _ n ih =>
    rw [cutTree]
    by_cases h : 0 < ps.length
    · have ht := topTo_le ps (ps.length - 1)
      rw [dif_pos h, Tr.inord, ih _ (by rw [List.length_take]; omega) _ rfl, ih _ (by rw [List.length_drop]; omega) _ rfl]
      exact cut_at ps _ (by omega)
    · rw [dif_neg h]
      cases ps with
      | nil => rfl
      | cons x l => exact absurd (Nat.succ_pos _) h
theorem cutTree_heap (ps : List PairT) (ha : Apart ps) : (cutTree ps).heap abP := by
  induction hn : ps.length using Nat.strongRecOn generalizing ps with
  | _ n ih =>
    rw [cutTree]
    by_cases h : 0 < ps.length
    · have ht := topTo_le ps (ps.length - 1)
      have hab := topTo_above ps (ranked_abP ps ha.ne) ha.at_ (ps.length - 1) (by omega)
      rw [dif_pos h]
      refine ⟨fun y hy => ?_, fun y hy => ?_, ih _ (by rw [List.length_take]; omega) _ (List.Pairwise.sublist (List.take_sublist _ _) ha) rfl, ih _ (by rw [List.length_drop]; omega) _ (List.Pairwise.sublist (List.drop_sublist _ _) ha) rfl⟩
      · rw [cutTree_inord] at hy
        obtain ⟨i, hi, rfl⟩ := List.getElem_of_mem hy
        rw [List.length_take] at hi
        rw [List.getElem_take, ← getD_lt ps i (by omega)]
        exact hab i (by omega) (by omega)
      · rw [cutTree_inord] at hy
        obtain ⟨i, hi, rfl⟩ := List.getElem_of_mem hy
        rw [List.length_drop] at hi
        rw [List.getElem_drop, ← getD_lt ps _ (by omega)]
        exact hab _ (by omega) (by omega)
    · rw [dif_neg h]; trivial
/-- Singles, merged one after another, are the tree that the model cuts. -/
def mergedTo (ps : List PairT) : Nat → Tr PairT
  | 0 => .nil
  | k + 1 => Tr.merge abP (mergedTo ps k) (.node .nil (ps.getD k noPair) .nil)
theorem mergedTo_inord (ps : List PairT) (k : Nat) (hk : k ≤ ps.length) : (mergedTo ps k).inord = ps.take k := by
  induction k with
  | zero => rfl
  | succ k ih =>
    rw [mergedTo, Tr.merge_inord, ih (by omega), List.take_succ_eq_append_getElem (by omega), getD_lt _ _ (by omega)]
    rfl
theorem mergedTo_heap (ps : List PairT) (ha : Apart ps) (k : Nat) (hk : k ≤ ps.length) : (mergedTo ps k).heap abP := by
  induction k with
  | zero => trivial
  | succ k ih =>
    rw [mergedTo]
    have hr := ranked_abP ps ha.ne
    have hi : (Tr.node .nil (ps.getD k noPair) .nil : Tr PairT).inord = [ps.getD k noPair] := rfl
    refine Tr.merge_heap abP _ _ (ih (by omega)) ⟨fun _ h => (by cases h), fun _ h => (by cases h), trivial, trivial⟩ (hr.sub abP fun x hx => ?_) (fun x hx y hy => ?_)
    · rw [hi, mergedTo_inord ps k (by omega)] at hx
      rcases List.mem_append.1 hx with q | q
      · exact List.mem_of_mem_take q
      · rw [List.mem_singleton.1 q, getD_lt _ _ (by omega)]; exact List.getElem_mem _
    · rw [mergedTo_inord ps k (by omega)] at hx
      rw [hi] at hy
      obtain ⟨i, hi', rfl⟩ := List.getElem_of_mem hx
      rw [List.length_take] at hi'
      rw [List.getElem_take, List.mem_singleton.1 hy, ← getD_lt ps i (by omega)]
      exact ha.at_ i k (by omega) (by omega) (by omega)
theorem merged_cut (ps : List PairT) (ha : Apart ps) : mergedTo ps ps.length = cutTree ps := by
  have hi : (mergedTo ps ps.length).inord = ps := by rw [mergedTo_inord ps _ (Nat.le_refl _), List.take_length]
  refine Tr.unique abP _ _ (mergedTo_heap ps ha _ (Nat.le_refl _)) (cutTree_heap ps ha) (by rw [hi, cutTree_inord]) ?_ ?_
  · rw [hi]; exact ha.imp fun h e => h (by rw [e])
  · rw [hi]; exact ranked_abP ps ha.ne
end Go.Proofs.YtfmpjlpakldheaaGreatDoor
namespace Go.Proofs.YtfmpjlpakldheaaGreatDoor
open Go.RowKit Go.Proofs.Sha

theorem mapTo_good (ps : List PairT) : ∀ n, mapTo ps n = true → ∀ k, k < n → goodAt ps k = true
  | 0, _, k, hk => absurd hk (Nat.not_lt_zero _)
  | n + 1, h, k, hk => by
    rw [mapTo, Bool.and_eq_true] at h
    by_cases e : k = n
    · subst e; exact h.2
    · exact mapTo_good ps n h.1 k (by omega)
theorem mapTo_less (ps : List PairT) (n : Nat) (h : mapTo ps n = true) (i j : Nat) (hij : i < j) (hj : j < n) : Op.bytesLess (keyAt ps i).data.toList (keyAt ps j).data.toList = true := by
  induction j with
  | zero => omega
  | succ j ih =>
    have hg := mapTo_good ps n h (j + 1) hj
    unfold goodAt at hg
    rw [Bool.and_eq_true, Bool.and_eq_true, ByteArray.toList_eq, ByteArray.toList_eq] at hg
    have hl : Op.bytesLess (keyAt ps j).data.toList (keyAt ps (j + 1)).data.toList = true := hg.2.2
    by_cases e : i = j
    · subst e; exact hl
    · exact less_trans _ _ _ (ih (by omega) (by omega)) hl
theorem isMapT_apart (ps : List PairT) (h : isMapT ps = true) : Apart ps := by
  unfold isMapT at h
  rw [Bool.and_eq_true] at h
  refine List.pairwise_iff_getElem.2 fun i j hi hj hij e => ?_
  have hl := mapTo_less ps ps.length h.2 i j hij hj
  have hk : keyAt ps i = keyAt ps j := by
    unfold keyAt
    rw [getD_lt _ _ hi, getD_lt _ _ hj, e]
  rw [hk, less_irr] at hl
  cases hl
end Go.Proofs.YtfmpjlpakldheaaGreatDoor
namespace Go.Proofs.YtfmpjlpakldheaaGreatDoor
open Go.RowKit Go.Proofs.Sha

end Go.Proofs.YtfmpjlpakldheaaGreatDoor
namespace Go.Proofs.YtfmpjlpakldheaaGreatDoor
open Go.RowKit Go.Proofs.Sha

section
variable {base : Nat} {N N' : Nat → Prop} {w w' w1 w2 : World}
end
end Go.Proofs.YtfmpjlpakldheaaGreatDoor
namespace Go.Proofs.YtfmpjlpakldheaaGreatDoor
open Go.RowKit Go.Proofs.Sha

end Go.Proofs.YtfmpjlpakldheaaGreatDoor
namespace Go.Proofs.YtfmpjlpakldheaaGreatDoor
open Go.RowKit Go.Proofs.Sha

end Go.Proofs.YtfmpjlpakldheaaGreatDoor
namespace Go.Proofs.YtfmpjlpakldheaaGreatDoor
open Go.RowKit Go.Proofs.Sha

end Go.Proofs.YtfmpjlpakldheaaGreatDoor
namespace Go.Proofs.YtfmpjlpakldheaaGreatDoor
open Go.RowKit Go.Proofs.Sha

end Go.Proofs.YtfmpjlpakldheaaGreatDoor
namespace Go.Proofs.YtfmpjlpakldheaaGreatDoor
open Go.RowKit Go.Proofs.Sha

end Go.Proofs.YtfmpjlpakldheaaGreatDoor
namespace Go.Proofs.YtfmpjlpakldheaaGreatDoor
open Go.RowKit Go.Proofs.Sha

section
variable {wg : World} {B0 base lb c gb xl xa : Nat} {lo hi : ByteArray} {w w' : World} {N : Nat → Prop}
end
end Go.Proofs.YtfmpjlpakldheaaGreatDoor
namespace Go.Proofs.YtfmpjlpakldheaaGreatDoor
open Go.RowKit Go.Proofs.Sha

/-- The two function values of a walk. -/
abbrev intoV (lo hi : ByteArray) : Value := .func (.func 119) #[.agg #[.string lo, .string hi]] #[]
abbrev atV (xl xa : Nat) : Value := .func (.func 152) #[] #[.pointer (some ⟨xl, 0, none⟩), .pointer (some ⟨xa, 0, none⟩)]
section
variable {wg : World} {B0 base lb sb c gb xl xa : Nat} {lo hi : ByteArray} {b : Nat} {w0 w w' : World} {cnt : Nat} {ps : List PairT} {hash over under : ByteArray} {par : Option Addr} {k v l r : ByteArray} {pl pr : Option Addr} {gl gr : Nat}
end
end Go.Proofs.YtfmpjlpakldheaaGreatDoor
namespace Go.Proofs
open Go.Shelf
def Tryz.lays169_ren : Go.Shelf.Ren := ⟨fun | 169 => 180 | n => n, fun | 70 => 233 | 9 => 9 | 0 => 0 | 72 => 235 | 37 => 22 | 127 => 230 | 3 => 3 | 5 => 5 | n => n, fun | n => n⟩
theorem Tryz.lays169 : Go.Proofs.Lays.n169 Tryz.prog Tryz.lays169_ren := {
  mixed := by kernel_rfl
  f169 := Tryz.func180.trans (congrArg some (by kernel_rfl))
  t0 := Tryz.underlying0
  a0 := Tryz.isAgg0
  z0 := Tryz.sizeOf0
  v0 := Tryz.zeroValue0
  t3 := Tryz.underlying3
  a3 := Tryz.isAgg3
  z3 := Tryz.sizeOf3
  v3 := Tryz.zeroValue3
  t9 := Tryz.underlying9
  a9 := Tryz.isAgg9
  z9 := Tryz.sizeOf9
  v9 := Tryz.zeroValue9
  t37 := Tryz.underlying22
  a37 := Tryz.isAgg22
  z37 := Tryz.sizeOf22
  v37 := Tryz.zeroValue22
  t70 := Tryz.underlying233
  a70 := Tryz.isAgg233
  z70 := Tryz.sizeOf233
  v70 := Tryz.zeroValue233
  t72 := Tryz.underlying235
  a72 := Tryz.isAgg235
  z72 := Tryz.sizeOf235
  v72 := Tryz.zeroValue235
  t127 := Tryz.underlying230
  a127 := Tryz.isAgg230
  z127 := Tryz.sizeOf230
  v127 := Tryz.zeroValue230 }
theorem Tryz.Builder_Extra_169 : Builder.Extra Tryz.prog Tryz.lays169_ren := {
  sizeBuilder := by kernel_rfl
  liesBuilder := by kernel_rfl
  t5 := Tryz.underlying5
  a5 := Tryz.isAgg5
  z5 := Tryz.sizeOf5
  v5 := Tryz.zeroValue5
  infoByte := by kernel_rfl
  cellsByte := by kernel_rfl
  sizeByte := by kernel_rfl
  neB5 := by decide }
open Go.RowKit in
theorem Tryz.Builder_String_any_k (B b : Nat) (l : List UInt8) (w : World) (h : Lib.IsBuilderF 235 5 B b (Lib.byteCells l) w) (hBw : B ≤ w.heap.size) :
    Calls Tryz.prog 180 #[.pointer (some ⟨b, 0, none⟩)] w fun e w' => e = .returned (.string ⟨l.toArray⟩) ∧ (Lib.IsBuilderF 235 5 B b (Lib.byteCells l) w' ∧ Below B w w' ∧ Lib.OthersKept 5 (some b) w w') := Any.Builder_String_any_k Tryz.lays169 Tryz.Builder_Extra_169 B b l w h hBw
def Tryz.lays167_ren : Go.Shelf.Ren := ⟨fun | 166 => 230 | 167 => 222 | 240 => 224 | 276 => 225 | n => n, fun | 0 => 0 | 3 => 3 | 4 => 4 | 5 => 5 | 9 => 9 | 20 => 20 | 37 => 22 | 70 => 233 | 72 => 235 | 75 => 283 | 80 => 137 | 164 => 280 | n => n, fun | n => n⟩
theorem Tryz.lays167 : Go.Proofs.Lays.n167 Tryz.prog Tryz.lays167_ren := {
  mixed := by kernel_rfl
  f167 := Tryz.func222.trans (congrArg some (by kernel_rfl))
  f240 := Tryz.func224.trans (congrArg some (by kernel_rfl))
  f276 := Tryz.func225.trans (congrArg some (by kernel_rfl))
  t0 := Tryz.underlying0
  a0 := Tryz.isAgg0
  z0 := Tryz.sizeOf0
  v0 := Tryz.zeroValue0
  t4 := Tryz.underlying4
  a4 := Tryz.isAgg4
  z4 := Tryz.sizeOf4
  v4 := Tryz.zeroValue4
  t5 := Tryz.underlying5
  a5 := Tryz.isAgg5
  z5 := Tryz.sizeOf5
  v5 := Tryz.zeroValue5
  t9 := Tryz.underlying9
  a9 := Tryz.isAgg9
  z9 := Tryz.sizeOf9
  v9 := Tryz.zeroValue9
  t20 := Tryz.underlying20
  a20 := Tryz.isAgg20
  z20 := Tryz.sizeOf20
  v20 := Tryz.zeroValue20
  t37 := Tryz.underlying22
  a37 := Tryz.isAgg22
  z37 := Tryz.sizeOf22
  v37 := Tryz.zeroValue22
  t70 := Tryz.underlying233
  a70 := Tryz.isAgg233
  z70 := Tryz.sizeOf233
  v70 := Tryz.zeroValue233
  t72 := Tryz.underlying235
  a72 := Tryz.isAgg235
  z72 := Tryz.sizeOf235
  v72 := Tryz.zeroValue235
  t75 := Tryz.underlying283
  a75 := Tryz.isAgg283
  z75 := Tryz.sizeOf283
  v75 := Tryz.zeroValue283
  t164 := Tryz.underlying280
  a164 := Tryz.isAgg280
  z164 := Tryz.sizeOf280
  v164 := Tryz.zeroValue280 }
theorem Tryz.Builder_Extra_167 : Builder.Extra Tryz.prog Tryz.lays167_ren := {
  sizeBuilder := by kernel_rfl
  liesBuilder := by kernel_rfl
  t5 := Tryz.underlying5
  a5 := Tryz.isAgg5
  z5 := Tryz.sizeOf5
  v5 := Tryz.zeroValue5
  infoByte := by kernel_rfl
  cellsByte := by kernel_rfl
  sizeByte := by kernel_rfl
  neB5 := by decide }
open Go.RowKit in
theorem Tryz.Builder_WriteByte_k (B b : Nat) (bs : List Value) (c : Int) (w : World) (h : Lib.IsBuilderF 235 5 B b bs w) (hlen : bs.length + 1 ≤ 140737488355328) (hBw : B ≤ w.heap.size) :
    Calls Tryz.prog 222 #[.pointer (some ⟨b, 0, none⟩), .int .u8 c] w fun e w' => e = .returned .nilIface ∧ (Lib.BuilderAtF 235 5 B b (.pointer (some ⟨b, 0, none⟩)) (bs ++ [.int .u8 c]) w' ∧ Below B w w' ∧ Lib.OthersKept 5 (some b) w w') := Any.Builder_WriteByte_k Tryz.lays167 Tryz.Builder_Extra_167 B b bs c w h hlen hBw
def Tryz.lays166_ren : Go.Shelf.Ren := ⟨fun | 166 => 230 | 167 => 222 | 240 => 224 | 276 => 225 | n => n, fun | 0 => 0 | 3 => 3 | 4 => 4 | 5 => 5 | 9 => 9 | 20 => 20 | 37 => 22 | 70 => 233 | 72 => 235 | 75 => 283 | 80 => 137 | 164 => 280 | n => n, fun | n => n⟩
theorem Tryz.lays166 : Go.Proofs.Lays.n166 Tryz.prog Tryz.lays166_ren := {
  mixed := by kernel_rfl
  f166 := Tryz.func230.trans (congrArg some (by kernel_rfl))
  f240 := Tryz.func224.trans (congrArg some (by kernel_rfl))
  f276 := Tryz.func225.trans (congrArg some (by kernel_rfl))
  t0 := Tryz.underlying0
  a0 := Tryz.isAgg0
  z0 := Tryz.sizeOf0
  v0 := Tryz.zeroValue0
  t3 := Tryz.underlying3
  a3 := Tryz.isAgg3
  z3 := Tryz.sizeOf3
  v3 := Tryz.zeroValue3
  t4 := Tryz.underlying4
  a4 := Tryz.isAgg4
  z4 := Tryz.sizeOf4
  v4 := Tryz.zeroValue4
  t9 := Tryz.underlying9
  a9 := Tryz.isAgg9
  z9 := Tryz.sizeOf9
  v9 := Tryz.zeroValue9
  t20 := Tryz.underlying20
  a20 := Tryz.isAgg20
  z20 := Tryz.sizeOf20
  v20 := Tryz.zeroValue20
  t37 := Tryz.underlying22
  a37 := Tryz.isAgg22
  z37 := Tryz.sizeOf22
  v37 := Tryz.zeroValue22
  t70 := Tryz.underlying233
  a70 := Tryz.isAgg233
  z70 := Tryz.sizeOf233
  v70 := Tryz.zeroValue233
  t72 := Tryz.underlying235
  a72 := Tryz.isAgg235
  z72 := Tryz.sizeOf235
  v72 := Tryz.zeroValue235
  t75 := Tryz.underlying283
  a75 := Tryz.isAgg283
  z75 := Tryz.sizeOf283
  v75 := Tryz.zeroValue283
  t164 := Tryz.underlying280
  a164 := Tryz.isAgg280
  z164 := Tryz.sizeOf280
  v164 := Tryz.zeroValue280 }
theorem Tryz.Builder_Extra_166 : Builder.Extra Tryz.prog Tryz.lays166_ren := {
  sizeBuilder := by kernel_rfl
  liesBuilder := by kernel_rfl
  t5 := Tryz.underlying5
  a5 := Tryz.isAgg5
  z5 := Tryz.sizeOf5
  v5 := Tryz.zeroValue5
  infoByte := by kernel_rfl
  cellsByte := by kernel_rfl
  sizeByte := by kernel_rfl
  neB5 := by decide }
open Go.RowKit in
theorem Tryz.Builder_WriteString_k (B b : Nat) (bs : List Value) (s : ByteArray) (w : World) (h : Lib.IsBuilderF 235 5 B b bs w) (hlen : bs.length + s.size ≤ 140737488355328) (hBw : B ≤ w.heap.size) :
    Calls Tryz.prog 230 #[.pointer (some ⟨b, 0, none⟩), .string s] w fun e w' => e = .returned (.tuple #[.int .i64 s.size, .nilIface]) ∧ (Lib.BuilderAtF 235 5 B b (.pointer (some ⟨b, 0, none⟩)) (bs ++ Lib.strCells s) w' ∧ Below B w w' ∧ Lib.OthersKept 5 (some b) w w') := Any.Builder_WriteString_k Tryz.lays166 Tryz.Builder_Extra_166 B b bs s w h hlen hBw
end Go.Proofs
