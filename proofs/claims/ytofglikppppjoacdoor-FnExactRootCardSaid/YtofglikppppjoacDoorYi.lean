import Derived.Test.YtofglikppppjoacDoorYh
import Derived.Deep.AppendLies
import Derived.Test.YtofglikppppjoacDoorYb
import Derived.ProofKit
import Derived.OpenShut
import Derived.ChangeSlices
import Derived.Deep.SlicePairs
import Derived.Test.YtofglikppppjoacDoorCards
import Derived.Test.YtofglikppppjoacDoorTie
import Derived.Deep.DeepHandedRow
import Derived.Lib.LaidTab
namespace Go.Proofs.YtofglikppppjoacDoor
open Go.RowKit Go.Proofs.Sha

def isW (n : Int) : Bool := decide (1 ≤ n) && decide (n ≤ 32)
theorem isW_out {n : Int} (h : isW n = true) : ∃ m : Nat, n = (m : Int) ∧ 1 ≤ m ∧ m ≤ 32 := by
  unfold isW at h
  rw [Bool.and_eq_true, decide_eq_true_eq, decide_eq_true_eq] at h
  exact ⟨n.toNat, by omega, by omega, by omega⟩
theorem isW_any (n : Int) (w : World) : Calls Tryd.prog 44 #[.int .i64 n] w fun e w' => e = .returned (.bool (isW n)) ∧ w' = w := by
  unfold isW
  by_cases h : 1 ≤ n
  · have z : decide (1 ≤ n) = true := decide_eq_true h
    rw [z, Bool.true_and]
    go_enter Tryd.func44, Tryd.ntmps44
    go_wp2_with fail
    go_ret
    exact ⟨rfl, rfl⟩
  · have z : decide (1 ≤ n) = false := decide_eq_false h
    rw [z, Bool.false_and]
    go_enter Tryd.func44, Tryd.ntmps44
    go_wp2_with fail
    go_ret
    exact ⟨rfl, rfl⟩
theorem isW_spec (n : Int) (w : World) : Calls Tryd.prog 40 #[.int .i64 n] w fun e w' => e = .returned (.bool (isW n)) ∧ w' = w := by
  unfold isW
  by_cases h : 1 ≤ n
  · have z : decide (1 ≤ n) = true := decide_eq_true h
    rw [z, Bool.true_and]
    go_enter Tryd.func40, Tryd.ntmps40
    go_wp2_with fail
    go_ret
    exact ⟨rfl, rfl⟩
  · have z : decide (1 ≤ n) = false := decide_eq_false h
    rw [z, Bool.false_and]
    go_enter Tryd.func40, Tryd.ntmps40
    go_wp2_with fail
    go_ret
    exact ⟨rfl, rfl⟩
theorem rank_said : RankSaid KTab := fun s w hs hk => rank_any s w hs hk

theorem addHashes_any (m : Nat) (h1 : 1 ≤ m) (h2 : m ≤ 32) (n0 : Nat) (t : Tr PairT) (p : Option Addr) (w : World) (ht : TA n0 bare t p w) (ha : Apart t.inord) (hsz : ∀ x ∈ t.inord, x.1.size ≤ 1048576 ∧ x.2.size ≤ 1048576) (hk : KTab w) :
    Calls Tryd.prog 70 #[.pointer p, .int .i64 (m : Int)] w fun e w' => e = .returned (.tuple #[]) ∧ ∃ bs, TAL n0 bare t p bs w ∧ TAL n0 (hf m) t p bs w' ∧ Upd (fun k => k ∈ bs) w w' := by
  obtain ⟨bs, hb⟩ := ht.list
  have hbA : Below w.heap.size w (w.alloc (.cells #[.int .i64 (m : Int)] 3)) := (Below.refl _ _).alloc (Nat.le_refl _) _
  have hcA : (w.alloc (.cells #[.int .i64 (m : Int)] 3)).cell? ⟨w.heap.size, 0, none⟩ = some (.int .i64 (m : Int)) := Lib.cell_of_heap (heap_alloc_new w _) 0
  have HW := walk_hash m h1 h2 w.heap.size n0 t p bs _ (hb.upd (M := fun _ => False) (Upd.of_below hbA) (fun _ _ q => q)) (hb.nodup ha) hsz (hk.below hbA) hcA
  have hmf : ∀ (fn : Fn) (first cap : Array Value) (w : World), (Instr.makeFunc fn first cap).run Tryd.prog w = .ok (.func fn first cap) w := fun _ _ _ _ => rfl
  have HB : Hid (TAL n0 bare t p bs w) := hb
  clear ht ha hsz hk hcA hb
  go_enter Tryd.func70, Tryd.ntmps70
  go_wp2_with (go_at_call 93; refine HW.mono ?_; rintro e w1 ⟨rfl, hT, hU⟩)
  go_end0
  exact ⟨rfl, bs, HB.out, hT, (Upd.of_below hbA).trans hU⟩

theorem hashedTree_any (m : Nat) (h1 : 1 ≤ m) (h2 : m ≤ 32) (a : Option Addr) (ps : List PairT) (c : Nat) (w : World) (h : PArg a ps w) (hm : isMapT ps = true) (hk : KTab w) :
    Calls Tryd.prog 46 #[.slice a ps.length c, .int .i64 (m : Int)] w fun e w' => ∃ p, e = .returned (.pointer p) ∧ TA w.heap.size (hf m) (cutTree ps) p w' ∧ Below w.heap.size w w' := by
  have ha := isMapT_apart ps hm
  have hc := merged_cut ps ha
  have HT := treeOf_any rank_said (fun w1 w2 k hb => KTab.below k hb) a ps c w h hk
  rw [hc] at HT
  have hin := cutTree_inord ps
  have hsz : ∀ x ∈ (cutTree ps).inord, x.1.size ≤ 1048576 ∧ x.2.size ≤ 1048576 := by
    intro x hx
    rw [hin] at hx
    obtain ⟨i, hi, rfl⟩ := List.getElem_of_mem hx
    have := h.sz i
    rw [getD_lt ps i hi] at this
    exact this
  have HH : Hid (∀ p w1, TA w.heap.size bare (cutTree ps) p w1 → Below w.heap.size w w1 → Calls Tryd.prog 70 #[.pointer p, .int .i64 (m : Int)] w1 fun e w' => e = .returned (.tuple #[]) ∧ TA w.heap.size (hf m) (cutTree ps) p w' ∧ Below w.heap.size w w') := fun p w1 ht hb => by
    refine (addHashes_any m h1 h2 w.heap.size (cutTree ps) p w1 ht (by rw [hin]; exact ha) hsz (hk.below hb)).mono ?_
    rintro e w' ⟨he, bs, t1, t2, hu⟩
    exact ⟨he, t2.ta, hb.trans (hu.below hb.size (fun k hk => t1.ge k hk))⟩
  clear hsz hin hc ha hk h hm
  generalize cutTree ps = ct at HT HH ⊢
  generalize ps.length = n at HT ⊢
  go_enter Tryd.func46, Tryd.ntmps46
  go_wp2_with (first | (go_at_call 69; refine HT.mono ?_; rintro e w1 ⟨p, rfl, ht1, hb1⟩) | (go_at_call 70; refine (HH.out _ _ ht1 hb1).mono ?_; rintro e w2 ⟨rfl, ht2, hb2⟩))
  go_ret
  exact ⟨p, rfl, ht2, hb2⟩

/-- The root of a map. -/
def rootS (ps : List PairT) (n : Int) : ByteArray := if (isMapT ps && isW n) = true then rootT n.toNat (cutTree ps) else ⟨#[]⟩
theorem rootImpl_any (a : Option Addr) (ps : List PairT) (c : Nat) (n : Int) (w : World) (h : PArg a ps w) (hk : KTab w) :
    Calls Tryd.prog 20 #[.slice a ps.length c, .int .i64 n] w fun e w' => e = .returned (.string (rootS ps n)) ∧ Below w.heap.size w w' := by
  have HM := isMap_any a ps c w h
  have HI := fun w' => isW_any n w'
  obtain ⟨R, hR⟩ : ∃ R, rootS ps n = R := ⟨_, rfl⟩
  rw [hR]
  cases hm : isMapT ps with
  | false =>
    have HR : Hid (R = ⟨#[]⟩) := by show _ = _; rw [← hR]; unfold rootS; rw [hm]; rfl
    rw [hm] at HM
    clear hR hm hk h
    generalize ps.length = n at HM ⊢
    go_enter Tryd.func20, Tryd.ntmps20
    go_wp2_with (first | (go_at_call 43; refine HM.mono ?_; rintro e w1 ⟨rfl, hb1⟩))
    go_ret
    exact ⟨by rw [HR.out]; rfl, hb1⟩
  | true =>
    cases hw : isW n with
    | false =>
      have HR : Hid (R = ⟨#[]⟩) := by show _ = _; rw [← hR]; unfold rootS; rw [hm, hw]; rfl
      rw [hm] at HM
      rw [hw] at HI
      clear hR hm hk h hw
      generalize ps.length = n at HM ⊢
      go_enter Tryd.func20, Tryd.ntmps20
      go_wp2_with (first | (go_at_call 43; refine HM.mono ?_; rintro e w1 ⟨rfl, hb1⟩) | (go_at_call 44; refine (HI _).mono ?_; rintro e w2 ⟨rfl, rfl⟩))
      go_ret
      exact ⟨by rw [HR.out]; rfl, hb1⟩
    | true =>
      obtain ⟨m, rfl, q1, q2⟩ := isW_out hw
      have HR : Hid (R = rootT m (cutTree ps)) := by show _ = _; rw [← hR]; unfold rootS; rw [hm, hw]; rfl
      rw [hw] at HI
      have HT : Hid (∀ w1, Below w.heap.size w w1 → Calls Tryd.prog 46 #[.slice a ps.length c, .int .i64 (m : Int)] w1 fun e w' => ∃ p, e = .returned (.pointer p) ∧ TA 0 (hf m) (cutTree ps) p w' ∧ Below w1.heap.size w1 w') := fun w1 hb => (hashedTree_any m q1 q2 a ps c w1 (h.below hb) hm (hk.below hb)).mono (by
        rintro e w' ⟨p, he, ht, hb'⟩
        exact ⟨p, he, ht.base, hb'⟩)
      rw [hm] at HM
      have HRo := fun p w' ht => root_any m (cutTree ps) p w' (n0 := 0) ht
      clear hR hm hk h hw
      generalize cutTree ps = ct at HT HRo HR
      generalize ps.length = n at HM HT ⊢
      generalize rootT m ct = G at HRo HR
      go_enter Tryd.func20, Tryd.ntmps20
      go_wp2_with (first | (go_at_call 43; refine HM.mono ?_; rintro e w1 ⟨rfl, hb1⟩) | (go_at_call 44; refine (HI _).mono ?_; rintro e w2 ⟨rfl, rfl⟩) | (go_at_call 46; refine (HT.out _ hb1).mono ?_; rintro e w3 ⟨p, rfl, ht3, hb3⟩) | (go_at_call 45; refine (HRo _ _ ht3).mono ?_; rintro e w4 ⟨rfl, rfl⟩))
      go_ret
      exact ⟨by rw [HR.out]; rfl, hb1.trans (hb3.mono hb1.size)⟩
end Go.Proofs.YtofglikppppjoacDoor
namespace Go.Proofs.YtofglikppppjoacDoor
open Go.RowKit Go.Proofs.Sha

/-- The encodings of a tree, subtrees first. -/
def encsT (m : Nat) : Tr PairT → List ByteArray
  | .nil => []
  | .node l x r => encsT m l ++ encsT m r ++ [encT m (.node l x r)]
theorem encsT_len (m : Nat) : ∀ t : Tr PairT, (encsT m t).length = t.size
  | .nil => rfl
  | .node l x r => by simp only [encsT, List.length_append, encsT_len m l, encsT_len m r, Tr.size]; rfl
theorem Tr.inord_len : ∀ t : Tr PairT, t.inord.length = t.size
  | .nil => rfl
  | .node l x r => by simp only [Tr.inord, List.length_append, List.length_cons, Tr.inord_len l, Tr.inord_len r, Tr.size]; omega
theorem cutTree_size (ps : List PairT) : (cutTree ps).size = ps.length := by rw [← Tr.inord_len, cutTree_inord]
theorem PArg.take {a : Option Addr} {ps : List PairT} {w : World} (h : PArg a ps w) (t : Nat) : PArg a (ps.take t) w := by
  have hl : (ps.take t).length ≤ ps.length := by rw [List.length_take]; omega
  have hg : ∀ j, j < (ps.take t).length → (ps.take t).getD j noPair = ps.getD j noPair := fun j hj => by
    rw [List.length_take] at hj
    rw [List.getD_eq_getElem?_getD, List.getD_eq_getElem?_getD, List.getElem?_take, if_pos (by omega)]
  refine ⟨Nat.le_trans hl h.le, fun j => ?_, fun hn => ?_⟩
  · by_cases hj : j < (ps.take t).length
    · rw [hg j hj]; exact h.sz j
    · rw [List.getD_eq_getElem?_getD, List.getElem?_eq_none (by omega)]; exact ⟨Nat.zero_le _, Nat.zero_le _⟩
  · obtain ⟨b, off, ha, hlt, hc⟩ := h.at_ (by omega)
    exact ⟨b, off, ha, hlt, fun j hj => by rw [hg j hj]; exact hc j (by omega)⟩
theorem PArg.drop {b off : Nat} {ps : List PairT} {w : World} (h : PArg (some ⟨b, off, none⟩) ps w) (t : Nat) : PArg (some ⟨b, off + t * 2, none⟩) (ps.drop t) w := by
  have hl : (ps.drop t).length = ps.length - t := List.length_drop
  have hg : ∀ j, (ps.drop t).getD j noPair = ps.getD (t + j) noPair := fun j => by
    rw [List.getD_eq_getElem?_getD, List.getD_eq_getElem?_getD, List.getElem?_drop]
  refine ⟨by have := h.le; omega, fun j => by rw [hg]; exact h.sz _, fun hn => ?_⟩
  obtain ⟨b', off', ha, hlt, hc⟩ := h.at_ (by omega)
  obtain ⟨rfl, rfl⟩ : b = b' ∧ off = off' := by simpa using ha
  refine ⟨b, _, rfl, hlt, fun j hj => ?_⟩
  have := hc (t + j) (by omega)
  rw [hg, show off + t * 2 + j * 2 = off + (t + j) * 2 by omega]
  exact this
theorem PArg.empty (a : Option Addr) (w : World) : PArg a [] w := ⟨Nat.zero_le _, fun _ => ⟨Nat.zero_le _, Nat.zero_le _⟩, fun h => absurd h (Nat.lt_irrefl _)⟩
def Okp (x : PairT) : Prop := okKey x.1 = true ∧ okVal x.2 = true
/-- What the model's encodings say. -/
def EncsAt (m : Nat) (ps : List PairT) (w : World) (e : Ending) (w' : World) : Prop := ∃ g c, e = .returned (.tuple #[.slice (some ⟨g, 0, none⟩) ps.length c, .string (rootT m (cutTree ps))]) ∧ Row w' w.heap.size g ps.length c ((encsT m (cutTree ps)).map Value.string) ∧ Below w.heap.size w w'
theorem encsinfo9 : (Tryd.prog.info? 9).map (fun i => (i.zero, i.size, i.bytes)) = some (some (.string ⟨#[]⟩), 1, 16) := by kernel_rfl
theorem encs_nil (m : Nat) (a : Option Addr) (c : Nat) (w : World) : Calls Tryd.prog 41 #[.slice a 0 c, .int .i64 (m : Int)] w (EncsAt m [] w) := by
  have hr : Row (w.alloc (.cells #[] 9)) w.heap.size w.heap.size 0 0 [] := by
    have := Row.of_block (base := w.heap.size) (g := w.heap.size) (Nat.le_refl _) (heap_alloc_new w (.cells #[] 9)) 0 (Nat.zero_le _) (.inl rfl)
    simpa using this
  have hb : Below w.heap.size w (w.alloc (.cells #[] 9)) := (Below.refl _ _).alloc (Nat.le_refl _) _
  have hn : cutTree [] = .nil := by rw [cutTree]; rfl
  unfold EncsAt
  rw [hn]
  clear hn
  go_enter Tryd.func41, Tryd.ntmps41
  go_wp2_with fail
  go_ret2
  exact ⟨w.heap.size, 0, rfl, hr, hb⟩

theorem hashS_dig (k v l r : ByteArray) (m : Nat) (h1 : 1 ≤ m) (h2 : m ≤ 32) (hk : okKey k = true) (hv : okVal v = true) (hl : l.size = 0 ∨ l.size = m) (hr : r.size = 0 ∨ r.size = m) : hashS k v l r m = digB (encS k v l r m) m := by
  have hok : nodeOk k.size v.size l.size r.size (m : Int) = true := by
    unfold okKey at hk
    unfold okVal at hv
    rw [decide_eq_true_eq] at hk hv
    unfold nodeOk hashOk
    rw [Bool.and_eq_true, Bool.and_eq_true, decide_eq_true_eq]
    refine ⟨by omega, ?_, ?_⟩
    · rw [Bool.or_eq_true, decide_eq_true_eq, decide_eq_true_eq]; omega
    · rw [Bool.or_eq_true, decide_eq_true_eq, decide_eq_true_eq]; omega
  have hne : ¬ (encS k v l r (m : Int)).size = 0 := by
    unfold encS
    rw [if_pos hok]
    show ¬ (encL _ _ _ _).toArray.size = 0
    rw [List.size_toArray]
    simp [encL]
  unfold hashS
  rw [if_neg hne]
  rfl

set_option maxRecDepth 100000 in
set_option maxHeartbeats 4000000 in
theorem encs_step (m : Nat) (h1 : 1 ≤ m) (h2 : m ≤ 32) (b off : Nat) (ps : List PairT) (c : Nat) (w : World) (h : PArg (some ⟨b, off, none⟩) ps w) (hc : ps.length ≤ c) (h0 : 0 < ps.length) (hok : ∀ x ∈ ps, Okp x)
    (ih : ∀ (a : Option Addr) (qs : List PairT) (c' : Nat) (w' : World), qs.length < ps.length → (∀ x ∈ qs, x ∈ ps) → qs.length ≤ c' → PArg a qs w' → Calls Tryd.prog 41 #[.slice a qs.length c', .int .i64 (m : Int)] w' (EncsAt m qs w')) :
    Calls Tryd.prog 41 #[.slice (some ⟨b, off, none⟩) ps.length c, .int .i64 (m : Int)] w (EncsAt m ps w) := by
  have hn := h.le
  have HT := top_any (some ⟨b, off, none⟩) ps c w h h0
  obtain ⟨T, hT⟩ : ∃ T, topTo ps (ps.length - 1) = T := ⟨_, rfl⟩
  have hTl : T < ps.length := by have := topTo_le ps (ps.length - 1); omega
  rw [hT] at HT
  have hcut : cutTree ps = .node (cutTree (ps.take T)) (ps.getD T noPair) (cutTree (ps.drop (T + 1))) := by rw [cutTree, dif_pos h0, hT]
  clear hT
  have l1 : (ps.take T).length = T := by rw [List.length_take]; omega
  have l2 : (ps.drop (T + 1)).length = ps.length - (T + 1) := List.length_drop
  have HL := fun w' (hb : Below w.heap.size w w') => ih (some ⟨b, off, none⟩) (ps.take T) c w' (by omega) (fun x hx => List.mem_of_mem_take hx) (by omega) ((h.below hb).take T)
  obtain ⟨A, hA⟩ : ∃ A : Option Addr, (if c = T + 1 then some ⟨b, off, none⟩ else some ⟨b, off + (T + 1) * 2, none⟩) = A := ⟨_, rfl⟩
  have hPA : ∀ w', Below w.heap.size w w' → PArg A (ps.drop (T + 1)) w' := fun w' hb => by
    rw [← hA]
    by_cases e : c = T + 1
    · rw [if_pos e, List.drop_of_length_le (by omega)]; exact PArg.empty _ _
    · rw [if_neg e]; exact (h.below hb).drop (T + 1)
  have HR := fun w' (hb : Below w.heap.size w w') => ih A (ps.drop (T + 1)) (c - (T + 1)) w' (by omega) (fun x hx => List.mem_of_mem_drop hx) (by omega) (hPA w' hb)
  clear hPA
  unfold EncsAt at HL HR ⊢
  rw [l1] at HL
  rw [l2] at HR
  obtain ⟨n, hnn⟩ : ∃ n, ps.length = n := ⟨_, rfl⟩
  have hxm : ps.getD T noPair ∈ ps := by rw [getD_lt _ _ hTl]; exact List.getElem_mem _
  have hx := hok _ hxm
  obtain ⟨b', off', he, hbl, hcs⟩ := h.at_ h0
  obtain ⟨rfl, rfl⟩ : b = b' ∧ off = off' := by simpa using he
  have hcell := hcs T hTl
  have hxsz := h.sz T
  rw [hnn] at hn hc h0 hTl HT HR ⊢
  clear hok ih hcs he h l1 l2
  rw [hcut]
  generalize cutTree (ps.take T) = tl at HL ⊢
  generalize cutTree (ps.drop (T + 1)) = tr at HR ⊢
  generalize ps.getD T noPair = x at hx hcell hxsz ⊢
  obtain ⟨n2, hn2⟩ : ∃ n2, n - (T + 1) = n2 := ⟨_, rfl⟩
  rw [hn2] at HR
  have HL' : Hid _ := HL
  have HR' : Hid _ := HR
  clear HL HR hcut hxm hnn
  have z0 : ((n : Int) == 0) = false := by simp; omega
  have z1 : (0 : Int) ≤ (T : Int) := Int.natCast_nonneg _
  have z2 : (T : Int) < (n : Int) := by omega
  have z3 : (n : Int) ≤ (c : Int) := by omega
  have z4 : (T : Int) ≤ (c : Int) := by omega
  go_enter Tryd.func41, Tryd.ntmps41
  go_upto_region 6 with (first | (go_at_call 50; refine HT.mono ?_; rintro e w1 ⟨rfl, hb1⟩) | (go_at_call_of 41 (Value.slice (some ⟨b, off, none⟩) T c); refine (HL'.out _ hb1).mono ?_; rintro e w2 ⟨g1, c1, rfl, hr1, hb2'⟩; have hb2 : Below w.heap.size w w2 := hb1.trans (hb2'.mono hb1.size)) | (go_at_call 41; refine (HR'.out _ hb2).mono ?_; rintro e w3 ⟨g2, c2, rfl, hr2, hb3'⟩; have hb3 : Below w.heap.size w w3 := hb2.trans (hb3'.mono hb2.size)))
  have hr1' := hr1.below hb3'
  have hs1 := hb1.size
  have hs2 := hb2.size
  have hs3 := hb3.size
  have hg1 := hr1.lt
  have hg2 := hr2.ge
  have hge1 := hr1.ge
  have hd1 := (hb3.cell hbl).trans hcell.1
  have hd2 := (hb3.cell hbl).trans hcell.2
  clear hr1 hb1 hb2' hb2 HL' HR' HT hb3' hcell
  obtain ⟨xk, xv⟩ := x
  dsimp only at hd1 hd2 hxsz
  have HD : Hid (∀ W, Below w3.heap.size w3 W → W.cell? ⟨b, off + T * 2, none⟩ = some (.string xk) ∧ W.cell? ⟨b, off + T * 2 + 1, none⟩ = some (.string xv)) := fun W hW => ⟨(hW.cell (p := ⟨b, off + T * 2, none⟩) (by show b < _; omega)).trans hd1, (hW.cell (p := ⟨b, off + T * 2 + 1, none⟩) (by show b < _; omega)).trans hd2⟩
  generalize hRl : rootT m tl = Rl
  generalize hRr : rootT m tr = Rr
  have hbA : Below w3.heap.size w3 (w3.drew.alloc (.cells #[.string ⟨#[]⟩, .string ⟨#[]⟩, .string ⟨#[]⟩, .string ⟨#[]⟩] 26)) := ((Below.refl _ _).drew).alloc (Nat.le_refl _) _
  have hbF : Below w3.heap.size w3 ((w3.alloc (.cells #[.string xk, .string xv, .string Rl, .string Rr] 26)).drew) := ((Below.refl _ _).alloc (Nat.le_refl _) _).drew
  go_region_held3 (fun W => W.cell? ⟨b, off + T * 2, none⟩ = some (.string xk) ∧ W.cell? ⟨b, off + T * 2 + 1, none⟩ = some (.string xv)) (first | exact HD.out _ (Below.refl _ _).drew | exact HD.out _ hbA | exact HD.out _ hbF) (fail)
  have hN4 : ((w3.alloc (.cells #[.string xk, .string xv, .string Rl, .string Rr] 26)).drew).heap[w3.heap.size]? = some (.cells #[.string xk, .string xv, .string Rl, .string Rr] 26) := heap_alloc_new w3 _
  have hb4 : Below w.heap.size w ((w3.alloc (.cells #[.string xk, .string xv, .string Rl, .string Rr] 26)).drew) := hb3.trans (hbF.mono hs3)
  have hR1 := (hr1'.below hbF).mono hs1
  have hR2 := (hr2.below hbF).mono hs2
  have hlt2 := hr2.lt
  obtain ⟨gn, hgn⟩ : ∃ gn, w3.heap.size = gn := ⟨_, rfl⟩
  rw [hgn] at hN4 hlt2 ⊢
  clear hbF hbA HD hd1 hd2 hr1' hr2
  generalize (w3.alloc (.cells #[.string xk, .string xv, .string Rl, .string Rr] 26)).drew = w4 at hN4 hb4 hR1 hR2 ⊢
  have hgne : g1 ≠ g2 ∧ g1 ≠ gn := ⟨by omega, by omega⟩
  have hRl' : Hid (rootT m tl = Rl) := hRl
  have hRr' : Hid (rootT m tr = Rr) := hRr
  have hw3 : w.heap.size ≤ gn := by omega
  clear hRl hRr hgn hs1 hs2 hs3 hge1 hg2 hb3 hA
  obtain ⟨i0, hi0, hz0, hz1, hz2⟩ := info_parts encsinfo9
  obtain ⟨E1, hE1⟩ : ∃ E1, encsT m tl = E1 := ⟨_, rfl⟩
  obtain ⟨E2, hE2⟩ : ∃ E2, encsT m tr = E2 := ⟨_, rfl⟩
  have hE1' : Hid (encsT m tl = E1) := hE1
  have hE2' : Hid (encsT m tr = E2) := hE2
  rw [hE1] at hR1
  rw [hE2] at hR2
  have hl2 : Hid (E2.length = n2) := by have := hR2.len; rw [List.length_map] at this; exact this
  have hn2' : n2 ≤ 1048576 := by omega
  have hT2 : T ≤ 1048576 := by omega
  have hnT : Hid (n = T + n2 + 1) := by show n = _; omega
  clear hE1 hE2 hn2
  go_upto_region 7 with fail
  go_wp2_with fail
  go_loopw [7, 12] (fun t7 t12 wr => ∃ k g c' : Nat, k ≤ n2 ∧ t12 = .int .i64 (k : Int) ∧ t7 = .slice (some ⟨g, 0, none⟩) (T + k) c' ∧ Row wr w.heap.size g (T + k) c' ((E1 ++ E2.take k).map Value.string) ∧ Row wr w.heap.size g2 n2 c2 (E2.map Value.string) ∧ wr.heap[gn]? = some (.cells #[.string xk, .string xv, .string Rl, .string Rr] 26) ∧ (g ≠ g2 ∧ g ≠ gn) ∧ Below w.heap.size w wr) (fun _ t12 _ => n2 - (intOf t12).toNat)
  case atStart => exact ⟨0, g1, c1, Nat.zero_le _, rfl, rfl, by rw [List.take_zero, List.append_nil]; exact hR1, hR2, hN4, hgne, hb4⟩
  case round =>
    clear hR1 hR2 hN4 hgne hb4
    obtain ⟨k, g, c', hk, rfl, rfl, hrow, hrow2, hnb, hne, hbw⟩ := hrel
    have hgl := hrow.ge
    have hglt := hrow.lt
    have hg2lt := hrow2.lt
    have hnlt : gn < wr.heap.size := (Array.getElem?_eq_some_iff.1 hnb).1
    by_cases hlt : k < n2
    · have y1 : decide ((k : Int) < (n2 : Int)) = true := by simp; omega
      have hx0 : (0 : Int) ≤ (k : Int) := Int.natCast_nonneg _
      have hx1 : (k : Int) < (n2 : Int) := by omega
      have hkl : k < E2.length := by rw [hl2.out]; exact hlt
      obtain ⟨y, hy⟩ : ∃ y, E2[k] = y := ⟨_, rfl⟩
      have hcx : wr.cell? ⟨g2, k, none⟩ = some (.string y) := by rw [hrow2.cell k hlt, List.getElem?_map, List.getElem?_eq_getElem hkl, hy]; rfl
      have hstep : Hid ((E1 ++ E2.take (k + 1)).map Value.string = (E1 ++ E2.take k).map Value.string ++ [.string y]) := by
        show _ = _
        rw [List.take_succ_eq_append_getElem hkl, hy]
        simp
      clear hkl hy
      generalize (E1 ++ E2.take k).map Value.string = L at hrow hstep
      go_wp2_with (first | (at_builtin; refine wpList_append_row _ rfl (.tmp 55) (.tmp 60) 29 rfl 9 i0 (.string ⟨#[]⟩) 16 Tryd.underlying29 hi0 hz0 hz1 hz2 rfl w.heap.size g (T + k) c' L rfl (hrow.alloc _) ⟨wr.heap.size, 0, none⟩ 1 1 [.string y] rfl rfl (World.news_of_block (heap_alloc_new wr _)) (by simp [Value.oneCell']) (by unfold maxLen; omega) (by omega) (by simp; omega) (wr.heap.size + 1) (by simp) ?_; intro g5 c5 w5 hrow5 hgrow5 hg5 hkeep5))
      have hgw : wr.grownBy w5 (some g) := grownBy_trans (World.grownBy_alloc _ _ _) hgrow5
      have hnb5 : w5.heap[gn]? = some (.cells #[.string xk, .string xv, .string Rl, .string Rr] 26) := (hgw.block gn hnlt (by simp; omega)).trans hnb
      have hrow25 := hrow2.kept hgw (by simp; omega)
      have hbw5 : Below w.heap.size w w5 := hbw.trans (below_of_grown hgw hgl hbw.size)
      go_roundw
      case rel => exact ⟨k + 1, g5, c5, hlt, by go_num, rfl, by rw [hstep.out]; exact hrow5, hrow25, hnb5, ⟨by rcases hg5 with q | q <;> omega, by rcases hg5 with q | q <;> omega⟩, hbw5⟩
      case measure => simp [intOf]; omega
    · obtain rfl : k = n2 := by omega
      have y1 : decide ((k : Int) < (k : Int)) = false := by simp
      have htk : E2.take k = E2 := List.take_of_length_le (by rw [hl2.out]; exact Nat.le_refl _)
      rw [htk] at hrow
      have hEn : encT m (.node tl (xk, xv) tr) = encS xk xv Rl Rr m := by rw [← hRl'.out, ← hRr'.out]; rfl
      have hRn : rootT m (.node tl (xk, xv) tr) = hashS xk xv Rl Rr m := by
        have e : rootT m (.node tl (xk, xv) tr) = digB (encS xk xv Rl Rr m) m := by rw [← hRl'.out, ← hRr'.out]; rfl
        rw [e]
        exact (hashS_dig xk xv Rl Rr m h1 h2 hx.1 hx.2 (by rw [← hRl'.out]; exact rootT_size m h2 tl) (by rw [← hRr'.out]; exact rootT_size m h2 tr)).symm
      have hfin : Hid ((encsT m (.node tl (xk, xv) tr)).map Value.string = (E1 ++ E2).map Value.string ++ [.string (encT m (.node tl (xk, xv) tr))]) := by
        show _ = _
        rw [encsT, hE1'.out, hE2'.out]
        simp
      have hsl : Rl.size ≤ 1048576 := by have := rootT_size m h2 tl; rw [hRl'.out] at this; omega
      have hsr : Rr.size ≤ 1048576 := by have := rootT_size m h2 tr; rw [hRr'.out] at this; omega
      have HE := fun w' => enc_any xk xv Rl Rr (m : Int) w' hxsz.1 hxsz.2 hsl hsr
      have HH := fun w' => shash_any xk xv Rl Rr (m : Int) w' hxsz.1 hxsz.2 hsl hsr
      rw [← hEn] at HE
      rw [← hRn] at HH
      unfold nodeV at HE
      clear hEn hRn hsl hsr hRl' hRr' hE1' hE2' hl2 htk hx hxsz
      generalize encT m (.node tl (xk, xv) tr) = En at HE hfin
      obtain ⟨Rn, hRn⟩ : ∃ Rn, rootT m (.node tl (xk, xv) tr) = Rn := ⟨_, rfl⟩
      rw [hRn] at HH
      have HRn : Hid (rootT m (.node tl (xk, xv) tr) = Rn) := hRn
      clear hRn
      generalize (E1 ++ E2).map Value.string = L at hrow hfin
      replace HE : Hid _ := HE
      replace HH : Hid _ := HH
      have HN : Hid (∀ W : World, W.heap[gn]? = some (.cells #[.string xk, .string xv, .string Rl, .string Rr] 26) → W.cell? ⟨gn, 0, none⟩ = some (.string xk) ∧ W.cell? ⟨gn, 1, none⟩ = some (.string xv) ∧ W.cell? ⟨gn, 2, none⟩ = some (.string Rl) ∧ W.cell? ⟨gn, 3, none⟩ = some (.string Rr)) := fun W hW => ⟨Lib.cell_of_heap hW 0, Lib.cell_of_heap hW 1, Lib.cell_of_heap hW 2, Lib.cell_of_heap hW 3⟩
      go_upto_region 11 with fail
      go_region_held3 (fun W => W.cell? ⟨gn, 0, none⟩ = some (.string xk) ∧ W.cell? ⟨gn, 1, none⟩ = some (.string xv) ∧ W.cell? ⟨gn, 2, none⟩ = some (.string Rl) ∧ W.cell? ⟨gn, 3, none⟩ = some (.string Rr)) (first | exact HN.out _ hnb | exact HN.out _ hN5 | exact HN.out _ hN5a | exact HN.out _ hN6 | exact HN.out _ hN7) (first | (go_at_call 24; refine (HE.out _).mono ?_; rintro e w5 ⟨t, rfl, ht, hb5'⟩; have hb5 : Below wr.heap.size wr w5 := (Below.refl wr.heap.size wr).drew.trans hb5'; have hN5 := (hb5.block gn hnlt).trans hnb; have hrow5 := hrow.below hb5; have hN5a : (w5.alloc (.cells #[.string t] 9)).heap[gn]? = _ := (Below.heap_alloc w5 _ gn (by have := hb5.size; omega)).trans hN5) | (refine step_append_row _ (by rfl) (.tmp 62) (.tmp 66) 29 (by rfl) 9 i0 (.string ⟨#[]⟩) 16 Tryd.underlying29 hi0 hz0 hz1 hz2 (by rfl) w.heap.size g (T + k) c' L (by rfl) (hrow5.alloc _) ⟨w5.heap.size, 0, none⟩ 1 1 [.string t] (by rfl) rfl (World.news_of_block (heap_alloc_new w5 _)) (by simp [Value.oneCell']) (by unfold maxLen; omega) (by omega) (by simp; have := hb5.size; omega) (w5.heap.size + 1) (by simp) ?_; intro g6 c6 w6 hrow6 hgrow6 hg6 hkeep6; have hN6 := (hgrow6.block gn (by simp; have := hb5.size; omega) (by simp; omega)).trans hN5a) | (go_at_call 8; refine (HH.out _).mono ?_; rintro e w7 ⟨t2, rfl, ht2, hb7⟩; have hN7 := (hb7.block gn (Array.getElem?_eq_some_iff.1 hN6).1).trans hN6))
      have hb6 : Below w.heap.size w w6 := (hbw.trans (hb5.mono hbw.size)).trans (((Below.refl _ _).alloc (Nat.le_refl w5.heap.size) _ |>.mono (by have := hb5.size; have := hbw.size; omega)).trans (below_of_grown hgrow6 hgl (by simp; have := hb5.size; have := hbw.size; omega)))
      have hb8 : Below w.heap.size w w7 := hb6.trans (hb7.mono hb6.size)
      have hrow7 := hrow6.below hb7
      rw [ht.out, ← hfin.out] at hrow7
      go_wp2_with fail
      go_ret2
      rw [HRn.out, hnT.out]
      exact ⟨g6, c6, by rw [ht2.out]; rfl, hrow7, hb8⟩
theorem encs_any (m : Nat) (h1 : 1 ≤ m) (h2 : m ≤ 32) (n : Nat) : ∀ (a : Option Addr) (ps : List PairT) (c : Nat) (w : World), ps.length ≤ n → ps.length ≤ c → PArg a ps w → (∀ x ∈ ps, Okp x) → Calls Tryd.prog 41 #[.slice a ps.length c, .int .i64 (m : Int)] w (EncsAt m ps w) := by
  induction n with
  | zero =>
    intro a ps c w hn _ _ _
    obtain rfl : ps = [] := List.length_eq_zero_iff.1 (by omega)
    exact encs_nil m a c w
  | succ n ih =>
    intro a ps c w hn hc h hok
    by_cases h0 : 0 < ps.length
    · obtain ⟨b, off, rfl, _, _⟩ := h.at_ h0
      exact encs_step m h1 h2 b off ps c w h hc h0 hok (fun a qs c' w' hl hs hc' hP => ih a qs c' w' (by omega) hc' hP (fun x hx => hok x (hs x hx)))
    · obtain rfl : ps = [] := List.length_eq_zero_iff.1 (by omega)
      exact encs_nil m a c w
theorem isMapT_ok (ps : List PairT) (h : isMapT ps = true) : ∀ x ∈ ps, Okp x := by
  intro x hx
  unfold isMapT at h
  rw [Bool.and_eq_true] at h
  obtain ⟨i, hi, rfl⟩ := List.getElem_of_mem hx
  have hg := mapTo_good ps ps.length h.2 i hi
  unfold goodAt at hg
  rw [Bool.and_eq_true, Bool.and_eq_true, getD_lt ps i hi] at hg
  exact ⟨hg.1, hg.2.1⟩
theorem rootSpec_any (a : Option Addr) (ps : List PairT) (c : Nat) (n : Int) (w : World) (h : PArg a ps w) (hc : ps.length ≤ c) :
    Calls Tryd.prog 18 #[.slice a ps.length c, .int .i64 n] w fun e w' => e = .returned (.string (rootS ps n)) ∧ Below w.heap.size w w' := by
  have HM := mapOk_any a ps c w h
  have HI := fun w' => isW_spec n w'
  obtain ⟨R, hR⟩ : ∃ R, rootS ps n = R := ⟨_, rfl⟩
  rw [hR]
  cases hm : isMapT ps with
  | false =>
    have HR : Hid (R = ⟨#[]⟩) := by show _ = _; rw [← hR]; unfold rootS; rw [hm]; rfl
    rw [hm] at HM
    clear hR hm h hc
    generalize ps.length = n at HM ⊢
    go_enter Tryd.func18, Tryd.ntmps18
    go_wp2_with (first | (go_at_call 39; refine HM.mono ?_; rintro e w1 ⟨rfl, hb1⟩))
    go_ret
    exact ⟨by rw [HR.out]; rfl, hb1⟩
  | true =>
    cases hw : isW n with
    | false =>
      have HR : Hid (R = ⟨#[]⟩) := by show _ = _; rw [← hR]; unfold rootS; rw [hm, hw]; rfl
      rw [hm] at HM
      rw [hw] at HI
      clear hR hm h hw hc
      generalize ps.length = n at HM ⊢
      go_enter Tryd.func18, Tryd.ntmps18
      go_wp2_with (first | (go_at_call 39; refine HM.mono ?_; rintro e w1 ⟨rfl, hb1⟩) | (go_at_call 40; refine (HI _).mono ?_; rintro e w2 ⟨rfl, rfl⟩))
      go_ret
      exact ⟨by rw [HR.out]; rfl, hb1⟩
    | true =>
      obtain ⟨m, rfl, q1, q2⟩ := isW_out hw
      have HR : Hid (R = rootT m (cutTree ps)) := by show _ = _; rw [← hR]; unfold rootS; rw [hm, hw]; rfl
      rw [hw] at HI
      have HT : Hid (∀ w1, Below w.heap.size w w1 → Calls Tryd.prog 41 #[.slice a ps.length c, .int .i64 (m : Int)] w1 fun e w' => ∃ g c', e = .returned (.tuple #[.slice (some ⟨g, 0, none⟩) ps.length c', .string (rootT m (cutTree ps))]) ∧ Below w1.heap.size w1 w') := fun w1 hb => (encs_any m q1 q2 _ a ps c w1 (Nat.le_refl _) hc (h.below hb) (isMapT_ok ps hm)).mono (by
        rintro e w' ⟨g, c', he, _, hb'⟩
        exact ⟨g, c', he, hb'⟩)
      rw [hm] at HM
      clear hR hm h hw hc
      generalize rootT m (cutTree ps) = G at HT HR
      generalize ps.length = n at HM HT ⊢
      go_enter Tryd.func18, Tryd.ntmps18
      go_wp2_with (first | (go_at_call 39; refine HM.mono ?_; rintro e w1 ⟨rfl, hb1⟩) | (go_at_call 40; refine (HI _).mono ?_; rintro e w2 ⟨rfl, rfl⟩) | (go_at_call 41; refine (HT.out _ hb1).mono ?_; rintro e w3 ⟨g, c', rfl, hb3⟩))
      go_ret
      exact ⟨by rw [HR.out]; rfl, hb1.trans (hb3.mono hb1.size)⟩
end Go.Proofs.YtofglikppppjoacDoor
namespace Go.Proofs.YtofglikppppjoacDoor
open Go.RowKit Go.Proofs.Sha

set_option maxRecDepth 100000 in
theorem law_root (a : Option Addr) (ps : List PairT) (c : Nat) (n : Int) (w : World) (hN : ps.length ≤ maxLen) (hM : ∀ j, (ps.getD j noPair).1.size ≤ maxLen ∧ (ps.getD j noPair).2.size ≤ maxLen)
    (h : 0 < ps.length → ∃ b off : Nat, a = some ⟨b, off, none⟩ ∧ b < w.heap.size ∧ ∀ j, j < ps.length → w.cell? ⟨b, off + j * 2, none⟩ = some (.string (ps.getD j noPair).1) ∧ w.cell? ⟨b, off + j * 2 + 1, none⟩ = some (.string (ps.getD j noPair).2))
    (hK : ∀ j, j < 64 → w.cell? ⟨0, j, none⟩ = some (.int .u32 ((kTab.getD j 0).toNat : Int))) :
    Calls Tryd.prog 5 #[.slice a ps.length c, .int .i64 n] w fun e w' => e = .returned (.bool true) ∧ Below w.heap.size w w' := by
  have hQ : QArg a ps w := ⟨h⟩
  have hk : KTab w := hK
  have HZ : Calls Tryd.prog 17 #[.slice a ps.length c, .int .i64 1048576] w fun e w' => ∃ r : Int, e = .returned (.int .i64 r) ∧ Hid (0 ≤ r → SmallP ps) ∧ Below w.heap.size w w' := (szPairS_any a ps c 1048576 w hQ (Nat.le_refl _) hN hM).mono (by rintro e w' ⟨r, he, _, h1, h2⟩; exact ⟨r, he, h1, h2⟩)
  have HT : Hid (∀ w', Below w.heap.size w w' → SmallP ps → Calls Tryd.prog 19 #[.slice a ps.length c] w' fun e w'' => ∃ g, e = .returned (.slice (some ⟨g, 0, none⟩) ps.length ps.length) ∧ w'.heap.size ≤ g ∧ PArg (some ⟨g, 0, none⟩) ps w'' ∧ Below w'.heap.size w' w'') := fun w' hb hs => toPairS_any a ps c w' ((hQ.below hb).parg hs)
  have HS : Hid (∀ w' g, PArg (some ⟨g, 0, none⟩) ps w' → Calls Tryd.prog 18 #[.slice (some ⟨g, 0, none⟩) ps.length ps.length, .int .i64 n] w' fun e w'' => e = .returned (.string (rootS ps n)) ∧ Below w'.heap.size w' w'') := fun w' g hp => rootSpec_any _ ps _ n w' hp (Nat.le_refl _)
  have HI : Hid (∀ w' g, Below w.heap.size w w' → PArg (some ⟨g, 0, none⟩) ps w' → Calls Tryd.prog 20 #[.slice (some ⟨g, 0, none⟩) ps.length ps.length, .int .i64 n] w' fun e w'' => e = .returned (.string (rootS ps n)) ∧ Below w'.heap.size w' w'') := fun w' g hb hp => rootImpl_any _ ps _ n w' hp (hk.below hb)
  have HE : Hid (∀ w' g g', PArg (some ⟨g, 0, none⟩) ps w' → PArg (some ⟨g', 0, none⟩) ps w' → Calls Tryd.prog 21 #[.slice (some ⟨g, 0, none⟩) ps.length ps.length, .slice (some ⟨g', 0, none⟩) ps.length ps.length] w' fun e w'' => e = .returned (.bool true) ∧ Below w'.heap.size w' w'') := fun w' g g' h1 h2 => eqPairS_any _ _ ps _ _ w' h1 h2
  clear h hN hM hK hk hQ
  generalize rootS ps n = R at HS HI
  generalize hl : ps.length = N at HZ HT HS HI HE
  clear hl
  go_enter Tryd.func5, Tryd.ntmps5
  go_wp2_with (go_at_call 17; refine HZ.mono ?_)
  rintro _ w1 ⟨r, rfl, hr, hb1⟩
  by_cases hr0 : r < 0
  · have z : decide (r < 0) = true := decide_eq_true hr0
    go_wp2_with fail
    go_ret
    exact ⟨rfl, hb1⟩
  · have z : decide (r < 0) = false := decide_eq_false hr0
    have hsm : Hid (SmallP ps) := hr.out (by omega)
    have z2 : 0 ≤ r := by omega
    clear hr
    go_wp2_with (go_at_call 19; refine (HT.out _ hb1 hsm.out).mono ?_)
    rintro _ w2 ⟨g1, rfl, _, hp1, hb2'⟩
    have hb2 : Below w.heap.size w w2 := hb1.trans (hb2'.mono hb1.size)
    go_wp2_with (go_at_call 18; refine (HS.out _ _ hp1).mono ?_)
    rintro _ w3 ⟨rfl, hb3'⟩
    have hb3 : Below w.heap.size w w3 := hb2.trans (hb3'.mono hb2.size)
    go_wp2_with (go_at_call 19; refine (HT.out _ hb3 hsm.out).mono ?_)
    rintro _ w4 ⟨g2, rfl, _, hp2, hb4'⟩
    have hb4 : Below w.heap.size w w4 := hb3.trans (hb4'.mono hb3.size)
    go_wp2_with (go_at_call 20; refine (HI.out _ _ hb4 hp2).mono ?_)
    rintro _ w5 ⟨rfl, hb5'⟩
    have hb5 : Below w.heap.size w w5 := hb4.trans (hb5'.mono hb4.size)
    have hp3 := hp2.below hb5'
    go_wp2_with (go_at_call 19; refine (HT.out _ hb5 hsm.out).mono ?_)
    rintro _ w6 ⟨g3, rfl, _, hp4, hb6'⟩
    have hb6 : Below w.heap.size w w6 := hb5.trans (hb6'.mono hb5.size)
    go_wp2_with (go_at_call 21; refine (HE.out _ _ _ (hp3.below hb6') hp4).mono ?_)
    rintro _ w7 ⟨rfl, hb7'⟩
    go_wp2_with fail
    go_ret
    exact ⟨rfl, hb6.trans (hb7'.mono hb6.size)⟩
end Go.Proofs.YtofglikppppjoacDoor
namespace Go.Proofs.Pairs
open Go Go.ChangeShapes Go.WideShapes Go.ChangeAt Go.RowKit

/-- A slice of structs of two texts that is handed in: what it holds, and that it reads so in every world in which what was there is as it was. -/
theorem open_pairs {P : Program} {H : Type} {enc : TypeId × Value → H} {W : World} {b0 : Nat} {t e : TypeId} {f0 f1 : Field} {v : Value} {d : DataW H} {p : List MemPlace} (ht : P.underlying t = some (.slice e)) (he : P.underlying e = some (.struct #[f0, f1])) (ce : P.cellsOf e = 2) (o0 : f0.offset = 0) (o1 : f1.offset = 1)
    (s0 : P.underlying f0.type = some .string) (s1 : P.underlying f1.type = some .string) (c0 : P.cellsOf f0.type = 1) (c1 : P.cellsOf f1.type = 1)
    (hv : Value.okWide P W .any b0 t v) (h : DataW.Trod enc P W 0 (fun _ => true) true t v d p) :
    ∃ (a : Option Addr) (c : Nat) (xs : List (ByteArray × ByteArray)), v = .slice a xs.length c ∧ xs.length ≤ maxLen ∧ (∀ j, (xs.getD j (⟨#[]⟩, ⟨#[]⟩)).1.size ≤ maxLen ∧ (xs.getD j (⟨#[]⟩, ⟨#[]⟩)).2.size ≤ maxLen) ∧
      (0 < xs.length → ∃ b off : Nat, a = some ⟨b, off, none⟩ ∧ b < W.heap.size ∧ ∀ j, j < xs.length → W.cell? ⟨b, off + j * 2, none⟩ = some (.string (xs.getD j (⟨#[]⟩, ⟨#[]⟩)).1) ∧ W.cell? ⟨b, off + j * 2 + 1, none⟩ = some (.string (xs.getD j (⟨#[]⟩, ⟨#[]⟩)).2)) ∧
      (∀ W' : World, Below W.heap.size W W' → DataW.Trod enc P W' 0 (fun b => decide (b < W.heap.size)) true t v d p) := by
  obtain ⟨a0, len, cap, rfl⟩ := okWide_slice ht hv
  obtain ⟨fuel, hf⟩ := h
  rcases Deep.open_slice_pairs ht he ce o0 o1 c0 c1 hf with ⟨h0, hx⟩ | ⟨a, len', cap', m, n, V0, V1, D0, D1, P0, P1, hcs, _, hl, hm, hmm, hx, hcell⟩
  · simp [Value.cells] at h0
    obtain ⟨rfl, rfl, rfl⟩ := h0
    simp only [Prod.mk.injEq] at hx
    obtain ⟨rfl, rfl⟩ := hx
    exact ⟨none, 0, [], rfl, Nat.zero_le _, fun _ => ⟨Nat.zero_le _, Nat.zero_le _⟩, fun hx => absurd hx (Nat.lt_irrefl 0), fun W' _ => shut_slice_nil ht⟩
  · simp [Value.cells] at hcs
    obtain ⟨rfl, rfl, rfl⟩ := hcs
    simp only [Prod.mk.injEq] at hx
    obtain ⟨rfl, rfl⟩ := hx
    simp only [if_true] at hmm
    subst hmm
    obtain ⟨b, off, spot⟩ := a
    have hstr : ∀ i, i < m → ∃ q : ByteArray × ByteArray, V0 i = .string q.1 ∧ V1 i = .string q.2 ∧ q.1.size ≤ maxLen ∧ q.2.size ≤ maxLen ∧ D0 i = .lit (.string q.1.data.toList) ∧ D1 i = .lit (.string q.2.data.toList) ∧ P0 i = [] ∧ P1 i = [] := fun i hi => by
      obtain ⟨_, _, t0, t1⟩ := hcell i hi
      obtain ⟨x0, e0, y0, z0⟩ := DataW.trod_string s0 t0
      obtain ⟨x1, e1, y1, z1⟩ := DataW.trod_string s1 t1
      simp only [List.cons.injEq, and_true] at e0 e1
      simp only [Prod.mk.injEq] at y0 y1
      exact ⟨(x0, x1), e0, e1, z0, z1, y0.1, y1.1, y0.2, y1.2⟩
    obtain ⟨Q, hQ⟩ := Deep.choose_lt hstr
    have hcells : 0 < m → spot = none ∧ b < W.heap.size := fun h => by
      have h1 := (hcell 0 (by omega)).1
      have hsp : spot = none := by simpa [Addr.add] using World.cell?_spot h1
      subst hsp
      rw [add_plain] at h1
      exact ⟨rfl, World.block_lt_of_cell? _ _ h1⟩
    have hlen : ((List.range len).map Q).length = len := by rw [List.length_map, List.length_range]
    have hget : ∀ j, j < len → ((List.range len).map Q).getD j (⟨#[]⟩, ⟨#[]⟩) = Q j := fun j hj => by
      rw [List.getD_eq_getElem?_getD, List.getElem?_map, List.getElem?_range hj]
      rfl
    refine ⟨some ⟨b, off, spot⟩, m, (List.range len).map Q, by rw [hlen], by rw [hlen]; omega, fun j => ?_, fun hpos => ?_, fun W' hb => ?_⟩
    · by_cases hj : j < len
      · rw [hget j hj]; exact ⟨(hQ j (by omega)).2.2.1, (hQ j (by omega)).2.2.2.1⟩
      · rw [List.getD_eq_getElem?_getD, List.getElem?_eq_none (by rw [hlen]; omega)]; exact ⟨Nat.zero_le _, Nat.zero_le _⟩
    · rw [hlen] at hpos
      obtain ⟨rfl, hlt⟩ := hcells (by omega)
      refine ⟨b, off, rfl, hlt, fun j hj => ?_⟩
      rw [hlen] at hj
      obtain ⟨k0, k1, _, _⟩ := hcell j (by omega)
      rw [add_plain] at k0 k1
      rw [hget j hj, ← (hQ j (by omega)).1, ← (hQ j (by omega)).2.1]
      exact ⟨k0, by rw [Nat.add_assoc]; exact k1⟩
    · by_cases h0 : 0 < m
      · obtain ⟨rfl, hlt⟩ := hcells h0
        have := Deep.shut_slice_pairs_whole (enc := enc) (P := P) (w := W') (base := 0) (spare := fun b => decide (b < W.heap.size)) (held := true) (b := b) (off := off) (len := len) (cap := m) ht he ce o0 o1 c0 c1 (Nat.zero_le _) hl hm (by simpa using hlt) V0 V1 D0 D1 P0 P1
          (fun i hi => by have := (hcell i hi).1; rw [add_plain] at this; exact (hb.cell hlt).trans this)
          (fun i hi => by have := (hcell i hi).2.1; rw [add_plain] at this; exact (hb.cell hlt).trans (by rw [Nat.add_assoc]; exact this))
          (fun i hi => by
            obtain ⟨q0, _, q2, _, q4, _, q6, _⟩ := hQ i hi
            rw [q0, q4, q6]
            exact ⟨1, by simp [DataW.trod, s0, q2]⟩)
          (fun i hi => by
            obtain ⟨_, q1, _, q3, _, q5, _, q7⟩ := hQ i hi
            rw [q1, q5, q7]
            exact ⟨1, by simp [DataW.trod, s1, q3]⟩)
        obtain ⟨n, hn⟩ := this
        exact ⟨n, by simpa [Value.cells] using hn⟩
      · obtain rfl : m = 0 := by omega
        obtain rfl : len = 0 := by omega
        by_cases hlt : b < W.heap.size
        · have := Deep.shut_slice_whole_cells (enc := enc) (P := P) (w := W') (base := 0) (spare := fun b => decide (b < W.heap.size)) (held := true) (a := ⟨b, off, spot⟩) (len := 0) (cap := 0) ht (Nat.zero_le _) hl hm (by simpa using hlt) (fun i => .agg [D0 i, D1 i]) (fun _ => []) (fun i hi => absurd hi (Nat.not_lt_zero i))
          obtain ⟨n, hn⟩ := this
          exact ⟨n, by simpa [Value.cells] using hn⟩
        · have := Deep.shut_slice_cells (enc := enc) (P := P) (w := W') (base := 0) (spare := fun b => decide (b < W.heap.size)) (held := true) (a := ⟨b, off, spot⟩) (len := 0) (cap := 0) ht (Nat.zero_le _) hl hm (by simpa using hlt) (fun i => .agg [D0 i, D1 i]) (fun _ => []) (fun i hi => absurd hi (Nat.not_lt_zero i))
          obtain ⟨n, hn⟩ := this
          exact ⟨n, by simpa [Value.cells] using hn⟩
end Go.Proofs.Pairs
namespace Go.Proofs.YtofglikppppjoacDoor.fnExactRoot
open Go.ChangeShapes Go.WideShapes Go.ChangeAt Go.RowKit Go.Proofs.Sha
open Go.ChangeMaps (open_string shut_string)

theorem own : ownKnob Tryd.prog.godebug = none := by kernel_rfl
theorem gTab : Tryd.prog.globalNamed "loop.example/s03048/impl.roundWords" = some 0 := by kernel_rfl
theorem gTabType : (Tryd.prog.globals[0]?).map (·.type) = some 160 := by kernel_rfl
theorem cellsTab : Tryd.prog.cellsOf 160 = 64 := by kernel_rfl
theorem cellsEl : Tryd.prog.cellsOf 113 = 1 := by kernel_rfl
def zs : List Int := kTab.map fun x => (x.toNat : Int)

/-- What the row's list gives: the table's cells hold its numbers. -/
theorem table {W : World} (h : laidMetH Tryd.prog Rows.fnExactRootRow.laid W) : Lib.TabIs Tryd.prog W "loop.example/s03048/impl.roundWords" .u32 zs :=
  Lib.tabIs_of_head (rest := []) gTab gTabType Tryd.underlying160 Tryd.underlying113 cellsEl cellsTab h
theorem tabCells {W : World} (h : laidMetH Tryd.prog Rows.fnExactRootRow.laid W) : ∀ j, j < 64 → W.cell? ⟨0, j, none⟩ = some (.int .u32 ((kTab.getD j 0).toNat : Int)) := fun j hj => by
  have h1 := (table h).cell gTab j (by exact hj)
  rw [h1]
  unfold zs
  rw [List.getD_eq_getElem?_getD, List.getElem?_map, List.getD_eq_getElem?_getD, List.getElem?_eq_getElem (by exact hj)]; rfl

def dat {H : Type} : DataW H := .agg (zs.map fun z => .lit (.int .u32 z))
/-- The table reads as itself, in whatever world. -/
theorem trod_tab {H : Type} (enc : TypeId × Value → H) (W : World) (sp : Nat → Bool) (hd : Bool) (n : Nat) : DataW.trod enc Tryd.prog W 0 sp hd (n + 2) 160 (kTab.map U) = some (dat, []) := by kernel_rfl
theorem trod_tab1 {H : Type} (enc : TypeId × Value → H) (W : World) (sp : Nat → Bool) (hd : Bool) : DataW.trod enc Tryd.prog W 0 sp hd 1 160 (kTab.map U) = none := by kernel_rfl

set_option maxRecDepth 100000 in
theorem contract (H : Type) (enc : TypeId × Value → H) (W : World) (base : Nat) (args : Array Value) (ds gs : List (DataW H)) (before : List MemPlace)
    (hval : ∀ (j : Nat) t v, Tryd.f5.params[j]? = some t → args[j]? = some v → Value.okWide Tryd.prog W .any base t v)
    (hW : DataW.Whole enc Tryd.prog Tryd.f5.params.toList Rows.fnExactRootSpec.vars false W args.toList ds gs before) (hL : laidMetH Tryd.prog Rows.fnExactRootRow.laid W) :
    Calls Tryd.prog 5 args W fun e W' => ∃ v, e = .returned v ∧ Rows.fnExactRootSpec.post enc Tryd.prog Tryd.f5 false true false false W args v W' := by
  have hW' := hW
  obtain ⟨p, q, hA0, hV, rfl, hfz, hnd⟩ := hW
  have hA : DataW.TrodAll enc Tryd.prog W 0 (fun _ => true) true Tryd.f5.params.toList args.toList ds p := hA0
  rw [Tryd.params5] at hA hval
  obtain ⟨v0, vs0, d0, ds0, p0, q0, hargs, rfl, rfl, h0, r0⟩ := trodAll_cons hA
  obtain ⟨v1, vs1, d1, ds1, p1, q1, rfl, rfl, rfl, h1, r1⟩ := trodAll_cons r0
  obtain ⟨rfl, rfl, rfl⟩ := trodAll_nil r1
  obtain rfl : args = #[v0, v1] := by cases args; simp_all
  obtain ⟨x0, c0, s0, rfl, hs0, hm0, hx0, hz0⟩ := Pairs.open_pairs Tryd.underlying40 Tryd.underlying63 (by kernel_rfl) rfl rfl Tryd.underlying9 Tryd.underlying9 (by kernel_rfl) (by kernel_rfl) (hval 0 40 v0 rfl rfl) h0
  obtain ⟨k1, rfl, rfl, rfl, wk1⟩ := open_int Tryd.underlying3 (hval 1 3 v1 rfl rfl) h1
  obtain ⟨g, t, cs, fuel, d, p', rfl, hg, ht, hvar, hd, rfl⟩ := trodVars_one hV
  obtain rfl := Option.some.inj (gTab.symm.trans hg)
  obtain rfl := Option.some.inj (gTabType.symm.trans ht)
  have hcs : cs = (kTab.map U).toArray := Option.some.inj (hvar.symm.trans (table hL))
  subst hcs
  have hdd : d = dat ∧ p' = [] := by
    match fuel, hd with
    | 0, hd => simp [DataW.trod] at hd
    | 1, hd => rw [show (kTab.map U).toArray.toList = kTab.map U from rfl, trod_tab1] at hd; cases hd
    | n + 2, hd =>
      rw [show (kTab.map U).toArray.toList = kTab.map U from rfl, trod_tab] at hd
      cases hd
      exact ⟨rfl, rfl⟩
  obtain ⟨rfl, rfl⟩ := hdd
  have hcells := tabCells hL
  have hl0 : 0 < W.heap.size := World.block_lt_of_cell? W _ (hcells 0 (by omega))
  clear hA0
  refine (law_root x0 s0 c0 k1 W hs0 hm0 hx0 hcells).mono fun e W' ⟨he, hb⟩ => ?_
  subst he
  have hvar' : W'.var? Tryd.prog "loop.example/s03048/impl.roundWords" = some (kTab.map U).toArray := by
    unfold World.var? at hvar ⊢
    simp only [gTab, Option.bind_some] at hvar ⊢
    rw [hb.block 0 hl0]
    exact hvar
  exact ⟨_, rfl, ⟨_, _, _, [], _, MemPlace.row ⟨0, 0, none⟩ (kTab.map U).toArray.size ++ [], hW', trodAll_cons_mk (shut_bool Tryd.underlying4 _) trodAll_mk0, trodAll_cons_mk (hz0 W' hb) (trodAll_cons_mk (shut_int Tryd.underlying3 wk1) trodAll_mk0),
    trodVars_mk1 (fuel := 2) gTab gTabType hvar' (trod_tab enc W' _ _ 0), hb.frame _, fun h => by cases h⟩⟩

theorem laid_met (os : Os) : laidMet Tryd.prog Rows.fnExactRootRow.laid (World.forCall ({ World.holding Tryd.prog os ⟨#[], #[], []⟩ with heap := (World.holding Tryd.prog os ⟨#[], #[], []⟩).heap.modify 0 fun | .cells _ t frozen => .cells (kTab.map U).toArray t frozen | o => o }) (fun _ _ => 0) ⟨#[], #[.slice none 0 0, .int .i64 0], []⟩).memory :=
  laidMet_of_run' 8 (by kernel_rfl) (by kernel_rfl)
theorem reads (os : Os) {H : Type} (enc : TypeId × Value → H) : ∃ places, DataW.whole enc Tryd.prog (World.forCall ({ World.holding Tryd.prog os ⟨#[], #[], []⟩ with heap := (World.holding Tryd.prog os ⟨#[], #[], []⟩).heap.modify 0 fun | .cells _ t frozen => .cells (kTab.map U).toArray t frozen | o => o }) (fun _ _ => 0) ⟨#[], #[.slice none 0 0, .int .i64 0], []⟩).memory Tryd.f5.params.toList Rows.fnExactRootSpec.vars false #[Value.slice none 0 0, Value.int .i64 0].toList 8 = some ([.nil, .lit (.int .i64 0)], [dat], places) :=
  ⟨MemPlace.row ⟨0, 0, none⟩ 64, by kernel_rfl⟩

set_option maxRecDepth 100000 in
theorem lifted (os : Os) (started : os.Started) (H : Type) (enc : TypeId × Value → H) (F : Stop.Interp) :
    ReturnsInHanded {} Tryd.checked os 5 .any ((OpenSpec.ofChange Rows.fnExactRootSpec).preRow enc Tryd.prog Tryd.f5 Rows.fnExactRootRow.domain false Rows.fnExactRootRow.laid) (((OpenSpec.ofChange Rows.fnExactRootSpec).at F).post enc Tryd.prog Tryd.f5 false true false false) := by
  obtain ⟨places, hx⟩ := reads os enc
  refine returnsInHanded_of_row (C := Tryd.checked) (s := OpenSpec.ofChange Rows.fnExactRootSpec) own started (by kernel_rfl) Tryd.func5
    (witness_row_at (enc := enc) (C := Tryd.checked) false ({ World.holding Tryd.prog os ⟨#[], #[], []⟩ with heap := (World.holding Tryd.prog os ⟨#[], #[], []⟩).heap.modify 0 fun | .cells _ t frozen => .cells (kTab.map U).toArray t frozen | o => o }) #[.slice none 0 0, .int .i64 0] rfl (by kernel_rfl) (by kernel_rfl) (by kernel_rfl)
      (OpenSpec.preRow_of_cond 8 hx (by kernel_rfl) (fun k hk => by cases hk) (by kernel_rfl) (laid_met os))) ?_
  intro W base args ds gs before hval hW _ _ _ hL _ _
  exact contract H enc W base args ds gs before hval hW hL

theorem said : Rows.FnExactRootSaid :=
  OpenClaim.holds_of_cond 5 Tryd.f5 rfl rfl rfl rfl rfl rfl rfl ⟨rfl, rfl, rfl, rfl, rfl⟩ rfl rfl rfl rfl rfl (by kernel_rfl) Tryd.func5 (by kernel_rfl)
    (of_decide_eq_true (by kernel_rfl)) (by unfold Func.isWrapper; first | (rw [if_pos (by decide +kernel)]; kernel_rfl) | (rw [if_neg (by decide +kernel)]; exact ⟨rfl, rfl⟩))
    (fun os started H enc _ F => by rw [OpenClaim.pre_eq_preRow]; exact lifted os started H enc F)

theorem plain (f : FuncId) (fn : Func) (hf : Tryd.pinned.checked.prog.funcNamed "loop.example/s03048/laws.FnExactRoot" = some f) (hfn : Tryd.pinned.checked.prog.funcs[f]? = some fn) :
    false = Tryd.pinned.checked.prog.looks [] ∧ ∀ (j : Nat) t, fn.params[j]? = some t → Tryd.pinned.checked.prog.wantsStandIn t = false := by
  obtain rfl : f = 5 := Option.some.inj ((show Tryd.prog.funcNamed "loop.example/s03048/laws.FnExactRoot" = some 5 by kernel_rfl).symm.trans hf) |>.symm
  obtain rfl : fn = Tryd.f5 := (Option.some.inj (Tryd.func5.symm.trans hfn)).symm
  refine ⟨by kernel_rfl, fun j t ht => ?_⟩
  rw [Tryd.params5] at ht
  have hm : t ∈ [40, 3] := by simpa using Array.mem_of_getElem? ht
  have hall : ([40, 3].all fun u => !Tryd.prog.wantsStandIn u) = true := by kernel_rfl
  exact (show Tryd.prog.wantsStandIn t = false by simpa using List.all_eq_true.1 hall t hm)
end Go.Proofs.YtofglikppppjoacDoor.fnExactRoot

namespace Go.Proofs.YtofglikppppjoacDoor
/-- The card. -/
theorem fnExactRoot_card : Rows.FnExactRootCardSaid :=
  Claim7.holds_tied_plain_at .later [] _ _ _ _ fnExactRoot.said (fun _ h => by cases h) (by kernel_rfl) (fun _ h => by cases h) fnExactRoot_row_tie rfl ⟨rfl, rfl⟩ (by kernel_rfl) rfl fnExactRoot.plain (by kernel_rfl)
#print axioms fnExactRoot_card
end Go.Proofs.YtofglikppppjoacDoor
