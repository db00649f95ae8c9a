import Derived.Test.YtibjhkpgaaapaaaGreatDoorZgba
import Derived.Test.YtibjhkpgaaapaaaGreatDoorZgar
import Derived.Test.YtibjhkpgaaapaaaGreatDoorZgan
import Derived.Test.YtibjhkpgaaapaaaGreatDoorZgat
import Derived.Deep.AppendLies
import Derived.Deep.Cut
import Derived.Test.YtibjhkpgaaapaaaGreatDoorZgav
import Derived.Laws.MakeOwn
import Derived.Laws.OwnMore
import Derived.Test.YtibjhkpgaaapaaaGreatDoorZgai
set_option maxRecDepth 100000
set_option maxHeartbeats 2000000
namespace Go.Proofs.YtibjhkpgaaapaaaGreatDoor
open Go.RowKit Go.Proofs.Sha

/-- How many F. -/
def cP : PT → Nat
  | .f _ _ l r => cP l + 1 + cP r
  | _ => 0
/-- The pairs within the bounds, in the order of keys. -/
def shP (lo hi : ByteArray) : PT → List PairT
  | .f k v l r => shP lo hi l ++ (if hasW lo hi k = true then [(k, v)] else []) ++ shP lo hi r
  | _ => []
theorem shP_len (lo hi : ByteArray) : ∀ t : PT, (shP lo hi t).length ≤ cP t
  | .e => Nat.le_refl _
  | .s _ => Nat.le_refl _
  | .f k v l r => by
    have h1 := shP_len lo hi l
    have h2 := shP_len lo hi r
    have h3 : (if hasW lo hi k = true then [(k, v)] else []).length ≤ 1 := by split <;> simp
    rw [shP, cP, List.length_append, List.length_append]
    omega
theorem rdP_cnt {s lo hi : ByteArray} {wd : Nat} : ∀ (f a : Nat) (over under par : ByteArray) (cnt : Nat) (t : PT) (a' c' : Nat), rdP s lo hi wd f a over under par cnt = some (t, a', c') → c' = cnt + cP t
  | 0, _, _, _, _, _, _, _, _, h => by cases h
  | f + 1, a, over, under, par, cnt, t, a', c', h => by
    rw [rdP] at h
    split at h
    · split at h
      · cases h; rfl
      · split at h
        · split at h
          · cases h; rfl
          · cases h
        · split at h
          · split at h
            · split at h
              · cases h
              · rename_i l a3 c3 hl
                split at h
                · cases h
                · rename_i r a4 c4 hr
                  cases h
                  have il := rdP_cnt f _ _ _ _ _ _ _ _ hl
                  have ir := rdP_cnt f _ _ _ _ _ _ _ _ hr
                  rw [cP]
                  omega
            · cases h
          · cases h
    · cases h
theorem accP_cnt {n : Int} {root lo hi s : ByteArray} {t : PT} (h : accP n root lo hi s = some t) : cP t ≤ 500 := by
  unfold accP at h
  split at h
  · cases hr : rdP s lo hi n.toNat 501 0 ⟨#[]⟩ ⟨#[]⟩ ⟨#[]⟩ 0 with
    | none => rw [hr] at h; cases h
    | some Y =>
      obtain ⟨t', a', c'⟩ := Y
      rw [hr] at h
      unfold accQ at h
      simp only at h
      split at h
      · cases h
        have h1 := rdP_cnt 501 _ _ _ _ _ _ _ _ hr
        have h2 := rdP_ok 501 _ _ _ _ _ _ _ _ (by omega) hr
        omega
      · cases h
  · cases h
theorem walk_shown (wd n0 gb c base : Nat) (lo hi : ByteArray) (hgc : gb ≠ c) : ∀ (t : PT) (p : Option Addr) (ps : List PairT) (a : Option Addr) (cap : Nat) (w : World), PB wd n0 t p w → w.heap[gb]? = some (.cells #[.string lo, .string hi] 75) → LS c base ps a cap w → ps.length + cP t ≤ 100000 →
    Calls Tryz.prog 98 #[.pointer p, .func (.func 99) #[] #[], .func (.func 100) #[] #[.pointer (some ⟨gb, 0, none⟩), .pointer (some ⟨c, 0, none⟩)]] w fun e w' => e = .returned (.bool true) ∧ (∃ a' cap', LS c base (ps ++ shP lo hi t) a' cap' w') ∧ Fr base (fun q => q = c) w w' := by
  have hleaf : ∀ (t : PT), isF t = false → ∀ (p : Option Addr) (ps : List PairT) (a : Option Addr) (cap : Nat) (w : World), PB wd n0 t p w → LS c base ps a cap w → shP lo hi t = [] →
    Calls Tryz.prog 98 #[.pointer p, .func (.func 99) #[] #[], .func (.func 100) #[] #[.pointer (some ⟨gb, 0, none⟩), .pointer (some ⟨c, 0, none⟩)]] w fun e w' => e = .returned (.bool true) ∧ (∃ a' cap', LS c base (ps ++ shP lo hi t) a' cap' w') ∧ Fr base (fun q => q = c) w w' := by
    intro t ht p ps a cap w hB hL hs
    have HU := isFull_any wd n0 t p w hB
    rw [ht] at HU
    have HP : Hid (∃ a' cap', LS c base (ps ++ shP lo hi t) a' cap' w) := ⟨a, cap, by rw [hs, List.append_nil]; exact hL⟩
    clear ht hB hL hs
    go_enter Tryz.func98, Tryz.ntmps98
    go_wp2_with (go_at_call 99; refine HU.mono ?_; rintro e w1 ⟨rfl, rfl⟩)
    go_ret
    exact ⟨rfl, HP.out, Fr.refl _ _ _⟩
  intro t
  induction t with
  | e => intro p ps a cap w hB hg hL hn; exact hleaf .e rfl p ps a cap w hB hL rfl
  | s hh => intro p ps a cap w hB hg hL hn; exact hleaf (.s hh) rfl p ps a cap w hB hL rfl
  | f k v l r ihl ihr =>
    intro p ps a cap w hB hg hL hn
    have HU := isFull_any wd n0 (.f k v l r) p w hB
    rw [show isF (.f k v l r) = true from rfl] at HU
    obtain ⟨b, lv, rv, rfl, hnb, hb, hl, hr⟩ := hB
    have hm : ∀ w' : World, (method 427 84 (.pointer (some ⟨b, 0, none⟩)) "loop.example/s03048/impl.subtrees").run Tryz.prog w' = .ok (222, .pointer (some ⟨b, 0, none⟩)) w' := fun _ => by kernel_rfl
    generalize encS k v (hashP wd l) (hashP wd r) wd = E at hb
    rw [cP] at hn
    have hll := shP_len lo hi l
    have kept : Hid (∀ w', Fr base (fun q => q = c) w w' → w'.heap[b]? = some (.cells #[.string k, .string v, lv, rv, .string E] 151) ∧ w'.heap[gb]? = some (.cells #[.string lo, .string hi] 75) ∧ PA wd n0 l lv w' ∧ PA wd n0 r rv w') := fun w' f => by
      have hN : ∀ q, q = c → ∃ cs t, w.heap[q]? = some (.cells cs t) ∧ t ≠ 151 := fun q e => (by subst e; exact ⟨_, _, hL.blk, by decide⟩)
      exact ⟨f.keep hb (fun e => ne_of_type hb hL.blk (by decide) e) (.inl (by decide)), f.keep hg (fun e => hgc e) (.inl (by decide)), hl.fr f hN, hr.fr f hN⟩
    have H0 : Hid (∀ w', Fr base (fun q => q = c) w w' → Calls Tryz.prog 100 #[.pointer (some ⟨b, 0, none⟩), .int .i64 0, .pointer (some ⟨gb, 0, none⟩), .pointer (some ⟨c, 0, none⟩)] w' fun e w'' => e = .returned (.bool true) ∧ Below w'.heap.size w' w'') := fun w' f => sh_no _ 0 (.inl rfl) gb c lo hi w' (kept.out w' f).2.1
    have H2 : Hid (∀ w', Fr base (fun q => q = c) w w' → Calls Tryz.prog 100 #[.pointer (some ⟨b, 0, none⟩), .int .i64 2, .pointer (some ⟨gb, 0, none⟩), .pointer (some ⟨c, 0, none⟩)] w' fun e w'' => e = .returned (.bool true) ∧ Below w'.heap.size w' w'') := fun w' f => sh_no _ 2 (.inr rfl) gb c lo hi w' (kept.out w' f).2.1
    have HS : Hid (∀ w', Fr base (fun q => q = c) w w' → Calls Tryz.prog 222 #[.pointer (some ⟨b, 0, none⟩)] w' fun e w'' => e = .returned (.tuple #[.pointer (ptrV lv), .pointer (ptrV rv)]) ∧ Below w'.heap.size w' w'') := fun w' f => subsP_any wd n0 b l r lv rv _ _ _ w' (kept.out w' f).1 (kept.out w' f).2.2.1 (kept.out w' f).2.2.2
    obtain ⟨pl, hpl⟩ : ∃ pl, ptrV lv = pl := ⟨_, rfl⟩
    obtain ⟨pr, hpr⟩ : ∃ pr, ptrV rv = pr := ⟨_, rfl⟩
    have HL : Hid (∀ w0, Below w.heap.size w w0 → Calls Tryz.prog 98 #[.pointer pl, .func (.func 99) #[] #[], .func (.func 100) #[] #[.pointer (some ⟨gb, 0, none⟩), .pointer (some ⟨c, 0, none⟩)]] w0 fun e w' => e = .returned (.bool true) ∧ (∃ a' cap', LS c base (ps ++ shP lo hi l) a' cap' w') ∧ Fr base (fun q => q = c) w w') := fun w0 hb0 => by
      obtain ⟨_, k2, k3, _⟩ := kept.out w0 (Fr.of_below hb0)
      rw [← hpl]
      refine (ihl _ ps a cap w0 k3.pb k2 (hL.below hb0) (by omega)).mono ?_
      rintro e w' ⟨he, hT, hU⟩
      exact ⟨he, hT, (Fr.of_below hb0).trans hU (fun _ _ x => x)⟩
    have H1 : Hid (∀ w1, Fr base (fun q => q = c) w w1 → (∃ a' cap', LS c base (ps ++ shP lo hi l) a' cap' w1) → Calls Tryz.prog 100 #[.pointer (some ⟨b, 0, none⟩), .int .i64 1, .pointer (some ⟨gb, 0, none⟩), .pointer (some ⟨c, 0, none⟩)] w1 fun e w' => e = .returned (.bool true) ∧ (∃ a' cap', LS c base (ps ++ shP lo hi l ++ (if hasW lo hi k = true then [(k, v)] else [])) a' cap' w') ∧ Fr base (fun q => q = c) w w') := fun w1 f1 ⟨a1, c1, hp1⟩ => by
      obtain ⟨k1, k2, _, _⟩ := kept.out w1 f1
      refine (sh_any b k v _ _ _ gb c base lo hi _ a1 c1 w1 k1 k2 hp1 (by rw [List.length_append]; omega)).mono ?_
      rintro e w' ⟨he, hp2, f2⟩
      exact ⟨he, hp2, f1.trans f2 (fun _ _ x => x)⟩
    have HR : Hid (∀ w1, Fr base (fun q => q = c) w w1 → (∃ a' cap', LS c base (ps ++ shP lo hi l ++ (if hasW lo hi k = true then [(k, v)] else [])) a' cap' w1) → Calls Tryz.prog 98 #[.pointer pr, .func (.func 99) #[] #[], .func (.func 100) #[] #[.pointer (some ⟨gb, 0, none⟩), .pointer (some ⟨c, 0, none⟩)]] w1 fun e w' => e = .returned (.bool true) ∧ (∃ a' cap', LS c base (ps ++ shP lo hi (.f k v l r)) a' cap' w') ∧ Fr base (fun q => q = c) w w') := fun w1 f1 ⟨a1, c1, hp1⟩ => by
      obtain ⟨_, k2, _, k4⟩ := kept.out w1 f1
      have h3 : (if hasW lo hi k = true then [(k, v)] else []).length ≤ 1 := by split <;> simp
      rw [← hpr]
      refine (ihr _ _ a1 c1 w1 k4.pb k2 hp1 (by rw [List.length_append, List.length_append]; omega)).mono ?_
      rintro e w' ⟨he, hT, hU⟩
      refine ⟨he, ?_, f1.trans hU (fun _ _ x => x)⟩
      have e2 : ps ++ shP lo hi l ++ (if hasW lo hi k = true then [(k, v)] else []) ++ shP lo hi r = ps ++ shP lo hi (.f k v l r) := by rw [shP]; simp only [List.append_assoc]
      rw [← e2]; exact hT
    rw [hpl, hpr] at HS
    generalize ps ++ shP lo hi (.f k v l r) = PX at HR ⊢
    generalize ps ++ shP lo hi l ++ (if hasW lo hi k = true then [(k, v)] else []) = PY at HR H1
    generalize ps ++ shP lo hi l = PZ at HL H1
    have f0 : Fr base (fun q => q = c) w w := Fr.refl _ _ _
    clear hb hl hr ihl ihr hL hg hn hll kept hpl hpr
    go_enter Tryz.func98, Tryz.ntmps98
    go_wp2_with (first | (go_at_call 99; refine HU.mono ?_; rintro e w1 ⟨rfl, rfl⟩) | (go_at_call_of 100 (Value.int .i64 0); refine (H0.out _ f0).mono ?_; rintro e wa ⟨rfl, hba⟩; have fa : Fr base (fun q => q = c) w wa := Fr.of_below hba) | (go_at_call_of 100 (Value.int .i64 1); refine (H1.out _ hu1 hp1).mono ?_; rintro e w2 ⟨rfl, hp2, hu2⟩) | (go_at_call 222; refine (HS.out _ fa).mono ?_; rintro e w0 ⟨rfl, hb0'⟩; have hb0 := hba.trans (hb0'.mono hba.size)) | (go_at_call_of 98 (Value.pointer pl); refine (HL.out _ hb0).mono ?_; rintro e w1 ⟨rfl, hp1, hu1⟩) | (go_at_call_of 98 (Value.pointer pr); refine (HR.out _ hu2 hp2).mono ?_; rintro e w3 ⟨rfl, ⟨a3, cap3, hp3⟩, hu3⟩) | (go_at_call_of 100 (Value.int .i64 2); refine (H2.out _ hu3).mono ?_; rintro e w4 ⟨rfl, hb4⟩))
    go_ret
    exact ⟨rfl, ⟨a3, cap3, hp3.below hb4⟩, hu3.trans (Fr.of_below hb4) (fun _ _ x => x)⟩
/-- What Verify answers. -/
def VerAt (lo hi : ByteArray) (R : Option PT) (w : World) (e : Ending) (w' : World) : Prop :=
  (∀ t, R = some t → ∃ a c, e = .returned (.tuple #[.slice a (shP lo hi t).length c, .bool true]) ∧ w'.ownsRow w.heap.size 81 2 (.slice a (shP lo hi t).length c) (shP lo hi t).length (flatP (shP lo hi t))) ∧ (R = none → e = .returned (.tuple #[.slice none 0 0, .bool false])) ∧ Below w.heap.size w w'
theorem shownBy_any (wd n0 : Nat) (lo hi : ByteArray) (t : PT) (x : Value) (w : World) (h : PA wd n0 t x w) (hn : cP t ≤ 500) :
    Calls Tryz.prog 43 #[x, .agg #[.string lo, .string hi]] w fun e w' => (∃ a c, e = .returned (.slice a (shP lo hi t).length c) ∧ w'.ownsRow w.heap.size 81 2 (.slice a (shP lo hi t).length c) (shP lo hi t).length (flatP (shP lo hi t))) ∧ Below w.heap.size w w' := by
  have hW : Below w.heap.size w ((w.alloc (.cells #[.string lo, .string hi] 75)).alloc (.cells #[.slice none 0 0] 35)) := ((Below.refl _ _).alloc (Nat.le_refl _) _).alloc (by simp) _
  have nC := heap_alloc_new (w.alloc (.cells #[.string lo, .string hi] 75)) (.cells #[.slice none 0 0] 35)
  have nG := (Below.heap_alloc (w.alloc (.cells #[.string lo, .string hi] 75)) (.cells #[.slice none 0 0] 35) w.heap.size (by simp)).trans (heap_alloc_new w (.cells #[.string lo, .string hi] 75))
  rw [World.size_alloc] at nC
  have hsz : ((w.alloc (.cells #[.string lo, .string hi] 75)).alloc (.cells #[.slice none 0 0] 35)).heap.size = w.heap.size + 2 := by simp
  have hLS : LS (w.heap.size + 1) (w.heap.size + 2) [] none 0 ((w.alloc (.cells #[.string lo, .string hi] 75)).alloc (.cells #[.slice none 0 0] 35)) := ⟨nC, ⟨rfl, .inl ⟨rfl, rfl⟩⟩, by omega⟩
  have hx := h.below hW
  have HA := asFull_any wd n0 t x _ hx
  have HW := walk_shown wd n0 w.heap.size (w.heap.size + 1) (w.heap.size + 2) lo hi (by omega) t (ptrV x) [] none 0 _ hx.pb nG hLS (by simp; omega)
  rw [List.nil_append] at HW
  have hmf : ∀ (fn : Fn) (first cap : Array Value) (w : World), (Instr.makeFunc fn first cap).run Tryz.prog w = .ok (.func fn first cap) w := fun _ _ _ _ => rfl
  generalize shP lo hi t = PX at HW ⊢
  have HQ : Hid (∀ w2, Fr (w.heap.size + 2) (fun q => q = w.heap.size + 1) ((w.alloc (.cells #[.string lo, .string hi] 75)).alloc (.cells #[.slice none 0 0] 35)) w2 → Below w.heap.size w w2) := fun w2 hf => hW.trans (hf.below (by omega) (fun q e => by omega) hW.size)
  clear h nC nG hLS hx hn hW hsz
  go_enter Tryz.func43, Tryz.ntmps43
  go_wp2_with (first | (go_at_call 45; refine HA.mono ?_; rintro e w1 ⟨rfl, rfl⟩) | (go_at_call 98; refine HW.mono ?_; rintro e w1 ⟨rfl, ⟨a1, c1, hp1⟩, hu1⟩; have hcell := Lib.cell_of_heap hp1.blk 0; replace hu1 := HQ.out _ hu1))
  go_ret
  exact ⟨⟨a1, c1, rfl, own2_mono hp1.own (by omega)⟩, hu1⟩
theorem iverify_any (n : Int) (root lo hi s : ByteArray) (w : World) (hs : s.size ≤ 1048576) (hr : root.size ≤ 1048576) (hK : KT w) :
    Calls Tryz.prog 17 #[.int .i64 n, .string root, .string lo, .string hi, .string s] w (VerAt lo hi (accP n root lo hi s) w) := by
  have hbA : Below w.heap.size w (w.alloc (.cells #[.string lo, .string hi] 75)) := (Below.refl _ _).alloc (Nat.le_refl _) _
  have nA := heap_alloc_new w (.cells #[.string lo, .string hi] 75)
  have HA := acc_any n root lo hi s (w.alloc (.cells #[.string lo, .string hi] 75)) hs hr (hK.below hbA)
  have hcn := fun t => accP_cnt (n := n) (root := root) (lo := lo) (hi := hi) (s := s) (t := t)
  generalize accP n root lo hi s = R at HA hcn ⊢
  have c0 := Lib.cell_of_heap nA 0
  have c1 := Lib.cell_of_heap nA 1
  cases R with
  | none =>
    have HA2 : Calls Tryz.prog 41 #[.int .i64 n, .string root, .agg #[.string lo, .string hi], .string s] (w.alloc (.cells #[.string lo, .string hi] 75)) fun e w' => e = .returned (.tuple #[.nilIface, .bool false]) ∧ Below w.heap.size w w' := by
      refine HA.mono ?_
      rintro e w' ⟨_, he, hb⟩
      exact ⟨he rfl, hbA.trans (hb.mono hbA.size)⟩
    have HP : Hid (∀ w', Below w.heap.size w w' → VerAt lo hi none w (.returned (.tuple #[.slice none 0 0, .bool false])) w') := fun w' hb => ⟨fun t h => (by cases h), fun _ => rfl, hb⟩
    clear HA hcn nA hK
    go_enter Tryz.func17, Tryz.ntmps17
    go_wp2_with (first | (go_at_call 41; refine HA2.mono ?_; rintro e w2 ⟨rfl, hb2⟩))
    go_ret2
    exact HP.out _ hb2
  | some t =>
    have hct := hcn t rfl
    have HA2 : Calls Tryz.prog 41 #[.int .i64 n, .string root, .agg #[.string lo, .string hi], .string s] (w.alloc (.cells #[.string lo, .string hi] 75)) fun e w' => ∃ T y, e = .returned (.tuple #[.iface T y, .bool true]) ∧ PA n.toNat (w.alloc (.cells #[.string lo, .string hi] 75)).heap.size t (.iface T y) w' ∧ Below w.heap.size w w' ∧ w'.cell? ⟨w.heap.size, 0, none⟩ = some (.string lo) ∧ w'.cell? ⟨w.heap.size, 1, none⟩ = some (.string hi) := by
      refine HA.mono ?_
      rintro e w' ⟨hy, _, hb⟩
      obtain ⟨T, y, he, hp⟩ := hy t rfl
      have n2 := below_cells hb nA
      exact ⟨T, y, he, hp, hbA.trans (hb.mono hbA.size), Lib.cell_of_heap n2 0, Lib.cell_of_heap n2 1⟩
    have HS : Hid (∀ T y w', PA n.toNat (w.alloc (.cells #[.string lo, .string hi] 75)).heap.size t (.iface T y) w' → Below w.heap.size w w' → Calls Tryz.prog 43 #[.iface T y, .agg #[.string lo, .string hi]] w' fun e w'' => ∃ a c, e = .returned (.slice a (shP lo hi t).length c) ∧ VerAt lo hi (some t) w (.returned (.tuple #[.slice a (shP lo hi t).length c, .bool true])) w'') := fun T y w' hp hb => by
      refine (shownBy_any n.toNat _ lo hi t _ w' hp hct).mono ?_
      rintro e w'' ⟨⟨a, c, he, ho⟩, hb2⟩
      exact ⟨a, c, he, fun t' h' => (by cases h'; exact ⟨a, c, rfl, own2_mono ho hb.size⟩), fun h' => (by cases h'), hb.trans (hb2.mono hb.size)⟩
    generalize (shP lo hi t).length = N at HS
    clear HA hcn nA hK hct
    go_enter Tryz.func17, Tryz.ntmps17
    go_wp2_with (first | (go_at_call 41; refine HA2.mono ?_; rintro e w2 ⟨tx, yx, rfl, hp2, hb2, d0, d1⟩) | (go_at_call 43; refine (HS.out _ _ _ hp2 hb2).mono ?_; rintro e w3 ⟨a3, c3, rfl, hv3⟩))
    go_ret2
    exact hv3
/-- Keys that grow. -/
def KeysUp : List ByteArray → Prop
  | [] => True
  | k :: ks => (∀ x ∈ ks, lessB k x = true) ∧ KeysUp ks
theorem bl_irr (a : List UInt8) : Op.bytesLess a a = false := by
  induction a with
  | nil => rfl
  | cons x y ih => rw [Op.bytesLess]; simp [ih]
theorem bl_tr : ∀ (a b c : List UInt8), Op.bytesLess a b = true → Op.bytesLess b c = true → Op.bytesLess a c = true
  | [], [], _, h, _ => by simp [Op.bytesLess] at h
  | [], _ :: _, [], _, k => by simp [Op.bytesLess] at k
  | [], _ :: _, _ :: _, _, _ => by simp [Op.bytesLess]
  | _ :: _, [], _, h, _ => by simp [Op.bytesLess] at h
  | _ :: _, _ :: _, [], _, k => by simp [Op.bytesLess] at k
  | x :: xs, y :: ys, z :: zs, h, k => by
    rw [Op.bytesLess] at h k ⊢
    simp only [Bool.or_eq_true, Bool.and_eq_true, decide_eq_true_eq, beq_iff_eq] at h k ⊢
    rcases h with h | ⟨rfl, h⟩
    · rcases k with k | ⟨rfl, k⟩
      · exact .inl (by rw [UInt8.lt_iff_toNat_lt] at *; omega)
      · exact .inl h
    · rcases k with k | ⟨rfl, k⟩
      · exact .inl k
      · exact .inr ⟨rfl, bl_tr xs ys zs h k⟩
theorem lessB_irr (a : ByteArray) : lessB a a = false := bl_irr _
theorem lessB_tr {a b c : ByteArray} (h : lessB a b = true) (k : lessB b c = true) : lessB a c = true := bl_tr _ _ _ h k
theorem lessB_or (a b : ByteArray) (h : lessB a b = false) (hne : a ≠ b) : lessB b a = true := by
  rw [lessB_tri] at h
  rcases (Bool.or_eq_true _ _).mp (by cases hq : (lessB b a || (b.toList == a.toList)) with | true => rfl | false => rw [hq] at h; cases h) with h | h
  · exact h
  · have e : b.toList = a.toList := by simpa using h
    rw [ByteArray.toList_eq, ByteArray.toList_eq] at e
    exact absurd (ByteArray.ext (Array.toList_inj.1 e.symm)) hne
/-- The pairs but one key's. -/
def wout (ps : List PairT) (k : ByteArray) : List PairT := ps.filter fun p => decide (p.1 ≠ k)
/-- The pairs with a key set, where the rest grows. -/
def ins (k v : ByteArray) : List PairT → List PairT
  | [] => [(k, v)]
  | p :: ps => if lessB k p.1 = true then (k, v) :: p :: ps else p :: ins k v ps
def wth (ps : List PairT) (k v : ByteArray) : List PairT := ins k v (wout ps k)
abbrev keys (ps : List PairT) : List ByteArray := ps.map Prod.fst
theorem ku_wout {ps : List PairT} (h : KeysUp (keys ps)) (k : ByteArray) : KeysUp (keys (wout ps k)) := by
  induction ps with
  | nil => exact h
  | cons p ps ih =>
    unfold wout at ih ⊢
    rw [List.filter_cons]
    split
    · refine ⟨fun x hx => ?_, ih h.2⟩
      obtain ⟨y, hy, rfl⟩ := List.mem_map.1 hx
      exact h.1 _ (List.mem_map.2 ⟨y, (List.mem_filter.1 hy).1, rfl⟩)
    · exact ih h.2
theorem mem_wout {ps : List PairT} {k x : ByteArray} : x ∈ keys (wout ps k) ↔ x ∈ keys ps ∧ x ≠ k := by
  unfold wout
  constructor
  · intro h
    obtain ⟨y, hy, rfl⟩ := List.mem_map.1 h
    obtain ⟨h1, h2⟩ := List.mem_filter.1 hy
    exact ⟨List.mem_map.2 ⟨y, h1, rfl⟩, by simpa using h2⟩
  · rintro ⟨h, hn⟩
    obtain ⟨y, hy, rfl⟩ := List.mem_map.1 h
    exact List.mem_map.2 ⟨y, List.mem_filter.2 ⟨hy, by simpa using hn⟩, rfl⟩
theorem mem_ins {k v x : ByteArray} : ∀ {ps : List PairT}, x ∈ keys (ins k v ps) ↔ x = k ∨ x ∈ keys ps
  | [] => by simp [ins]
  | p :: ps => by
    rw [ins]
    split
    · simp
    · have ih := mem_ins (k := k) (v := v) (x := x) (ps := ps)
      simp only [keys, List.map_cons, List.mem_cons] at ih ⊢
      rw [ih]
      constructor
      · rintro (h | h | h)
        · exact .inr (.inl h)
        · exact .inl h
        · exact .inr (.inr h)
      · rintro (h | h | h)
        · exact .inr (.inl h)
        · exact .inl h
        · exact .inr (.inr h)
theorem ku_ins {k v : ByteArray} : ∀ {ps : List PairT}, KeysUp (keys ps) → (∀ x ∈ keys ps, x ≠ k) → KeysUp (keys (ins k v ps))
  | [], _, _ => ⟨fun _ h => by simp at h, trivial⟩
  | p :: ps, h, hn => by
    rw [ins]
    split
    · rename_i hl
      refine ⟨fun x hx => ?_, h⟩
      rcases List.mem_cons.1 hx with e | hx
      · rw [e]; exact hl
      · exact lessB_tr hl (h.1 x hx)
    · rename_i hl
      refine ⟨fun x hx => ?_, ku_ins h.2 (fun x hx => hn x (List.mem_cons_of_mem _ hx))⟩
      rcases mem_ins.1 hx with e | hx
      · rw [e]
        exact lessB_or _ _ (by simpa using hl) (fun e => hn p.1 List.mem_cons_self e.symm)
      · exact h.1 x hx
theorem ku_wth {ps : List PairT} (h : KeysUp (keys ps)) (k v : ByteArray) : KeysUp (keys (wth ps k v)) := ku_ins (ku_wout h k) (fun _ hx => (mem_wout.1 hx).2)
theorem mem_wth {ps : List PairT} {k v x : ByteArray} : x ∈ keys (wth ps k v) ↔ x = k ∨ x ∈ keys ps := by
  unfold wth
  rw [mem_ins, mem_wout]
  constructor
  · rintro (h | h)
    · exact .inl h
    · exact .inr h.1
  · rintro (h | h)
    · exact .inl h
    · by_cases e : x = k
      · exact .inl e
      · exact .inr ⟨h, e⟩
abbrev ChT := ByteArray × Bool × ByteArray × Bool × ByteArray
def kU : List PairT → List PairT → List ByteArray
  | [], [] => []
  | p :: ps, [] => p.1 :: kU ps []
  | [], q :: qs => q.1 :: kU [] qs
  | p :: ps, q :: qs => if p.1 = q.1 then p.1 :: kU ps qs else if lessB p.1 q.1 = true then p.1 :: kU ps (q :: qs) else q.1 :: kU (p :: ps) qs
termination_by ps qs => ps.length + qs.length
theorem drop_getD (ps : List PairT) (i : Nat) (h : i < ps.length) : ps.drop i = ps.getD i noPair :: ps.drop (i + 1) := by
  rw [List.drop_eq_getElem_cons h]
  congr 1
  simp [List.getD_eq_getElem?_getD, List.getElem?_eq_getElem h]
theorem ba_eq {a b : ByteArray} : (a.toList == b.toList) = decide (a = b) := by
  by_cases e : a = b
  · subst e; simp
  · rw [decide_eq_false e, beq_eq_false_iff_ne]
    intro h
    rw [ByteArray.toList_eq, ByteArray.toList_eq] at h
    exact e (ByteArray.ext (Array.toList_inj.1 h))
/-- A row of pairs of the call's own, while it is put together. -/
structure OwnP (w : World) (xs : List PairT) (a : Option Addr) (m c : Nat) (W : World) : Prop where
  own : W.ownsRow w.heap.size 81 2 (.slice a m c) m (flatP xs)
  bel : Below w.heap.size w W
  len : xs.length = m
theorem OwnP.below {w W W' : World} {xs : List PairT} {a : Option Addr} {m c : Nat} (h : OwnP w xs a m c W) (hb : Below W.heap.size W W') : OwnP w xs a m c W' :=
  ⟨own2_kept h.own (fun q _ hq => hb.block q hq), h.bel.trans (hb.mono h.bel.size), h.len⟩
theorem OwnP.more {w W W' : World} {xs : List PairT} {a : Option Addr} {m c m' g cap : Nat} {y : PairT} {o : Obj} (h : OwnP w xs a m c W) (hown : W'.ownsRow w.heap.size 81 2 (.slice (some ⟨g, 0, none⟩) m' cap) m' (flatP xs ++ [.string y.1, .string y.2])) (hgrow : (W.alloc o).grownBy W' (Value.slice a m c).ownBlock) (hm : m' = m + 1) : OwnP w (xs ++ [y]) (some ⟨g, 0, none⟩) m' cap W' := by
  have ha := h.below ((Below.refl W.heap.size W).alloc (Nat.le_refl _) o)
  refine ⟨by rw [flatP_app]; exact hown, ha.bel.grown hgrow ha.bel.size (fun q hq => (own2_cells ha.own hq).1), by rw [List.length_append, h.len, hm]; rfl⟩
/-- What a function that makes pairs answers. -/
def PairsAt (xs : List PairT) (w : World) (e : Ending) (w' : World) : Prop := ∃ a c, e = .returned (.slice a xs.length c) ∧ OwnP w xs a xs.length c w'
theorem take_getD (ps : List PairT) (i : Nat) (h : i < ps.length) : ps.take (i + 1) = ps.take i ++ [ps.getD i noPair] := by
  rw [List.take_add_one, List.getElem?_eq_getElem h]
  simp [List.getD_eq_getElem?_getD, List.getElem?_eq_getElem h]
theorem wout_app (a b : List PairT) (k : ByteArray) : wout (a ++ b) k = wout a k ++ wout b k := List.filter_append ..
theorem wout_le (ps : List PairT) (k : ByteArray) : (wout ps k).length ≤ ps.length := List.length_filter_le ..
theorem OwnP.nil (w : World) : OwnP w [] (some ⟨w.heap.size, 0, none⟩) 0 0 (w.alloc (.cells #[] 81)) :=
  ⟨own2_nil (Nat.le_refl _) (heap_alloc_new w _), (Below.refl _ _).alloc (Nat.le_refl _) _, rfl⟩
theorem without_any (a : Option Addr) (ps : List PairT) (c : Nat) (key : ByteArray) (w : World) (h : PArg a ps w) : Calls Tryz.prog 137 #[.slice a ps.length c, .string key] w (PairsAt (wout ps key) w) := by
  obtain ⟨i0, hi0, hz0, hz1, hz2⟩ := info_parts2 info37
  have hn := h.le
  obtain ⟨N, hN⟩ : ∃ N, ps.length = N := ⟨_, rfl⟩
  rw [hN] at hn ⊢
  have hNl : Hid (ps.length = N) := hN
  clear hN
  have hO := OwnP.nil w
  go_enter Tryz.func137, Tryz.ntmps137
  go_wp2_with fail
  go_loopw [5, 6] (fun t5 t6 wr => ∃ k : Nat, k ≤ N ∧ t6 = .int .i64 (k : Int) ∧ ∃ (a' : Option Addr) (m d' : Nat), t5 = .slice a' m d' ∧ OwnP w (wout (ps.take k) key) a' m d' wr) (fun _ t6 _ => N - (intOf t6).toNat)
  case atStart => exact ⟨0, Nat.zero_le _, rfl, _, _, _, rfl, hO⟩
  case round =>
    obtain ⟨k, hk, rfl, a', m, d', rfl, hW⟩ := hrel
    by_cases hlt : k < N
    · have z1 : decide ((k : Int) < (N : Int)) = true := by simp; omega
      have hx0 : (0 : Int) ≤ (k : Int) := Int.natCast_nonneg _
      have hx1 : (k : Int) < (N : Int) := by omega
      obtain ⟨b1, off1, rfl, hbl1, hc⟩ := (h.below hW.bel).at_ (by rw [hNl.out]; omega)
      obtain ⟨hc1, hc2⟩ := hc k (by rw [hNl.out]; exact hlt)
      have hml : m ≤ 1048576 := by have := hW.len; have := wout_le (ps.take k) key; rw [List.length_take] at this; omega
      have htk : Hid (wout (ps.take (k + 1)) key = wout (ps.take k) key ++ wout [ps.getD k noPair] key) := by
        show _ = _
        rw [take_getD ps k (by rw [hNl.out]; exact hlt), wout_app]
      generalize ps.getD k noPair = p at hc1 hc2 htk
      obtain ⟨pk, pv⟩ := p
      simp only at hc1 hc2
      have hbs := hW.bel.size
      by_cases e : pk = key
      · have z2 : (pk.toList == key.toList) = true := by rw [ba_eq, decide_eq_true e]
        have hf : Hid (wout [(pk, pv)] key = []) := by show _ = _; simp [wout, e]
        clear e hc
        go_wp2_with fail
        go_roundw
        case rel => exact ⟨k + 1, hlt, by go_num, _, _, _, rfl, by rw [htk.out, hf.out, List.append_nil]; exact hW⟩
        case measure => simp [intOf]; omega
      · have z2 : (pk.toList == key.toList) = false := by rw [ba_eq, decide_eq_false e]
        have hf : Hid (wout [(pk, pv)] key = [(pk, pv)]) := by show _ = _; simp [wout, e]
        have own := hW.own
        clear e hc
        go_wp2_with (at_builtin; refine wpList_append_lies _ rfl (.tmp 21) (.tmp 26) 35 rfl w.heap.size 81 i0 (.agg #[.string ⟨#[]⟩, .string ⟨#[]⟩]) 2 32 Tryz.underlying35 hi0 hz0 hz1 hz2 rfl (by decide) (.slice a' m d') m (flatP (wout (ps.take k) key)) rfl (own.alloc _) ⟨wr.heap.size, 0, none⟩ 1 1 [.string pk, .string pv] rfl rfl (World.news_of_block (heap_alloc_new wr _)) (by simp [Value.oneCell']) (by decide) (by unfold maxLen; omega) (by omega) (by simp; omega) (wr.heap.size + 1) (by simp) ?_; intro g5 c5 w5 hown5 hgrow5 hat5 hlt5)
        go_roundw
        case rel => exact ⟨k + 1, hlt, by go_num, _, _, _, rfl, by rw [htk.out, hf.out]; exact hW.more hown5 hgrow5 rfl⟩
        case measure => simp [intOf]; omega
    · obtain rfl : k = N := by omega
      have z1 : decide ((k : Int) < (k : Int)) = false := by simp
      rw [List.take_of_length_le (by rw [hNl.out]; exact Nat.le_refl _)] at hW
      have hl := hW.len
      subst hl
      go_wp2_with fail
      go_ret
      exact ⟨_, _, rfl, hW⟩
/-- A row of pairs, or nothing. -/
def PRow (w : World) (base : Nat) (a : Option Addr) (n _c : Nat) (xs : List Value) : Prop := n = 0 ∨ ∃ g, a = some ⟨g, 0, none⟩ ∧ Row w base g (n * 2) (n * 2) xs
theorem own_prow {w : World} {base n c : Nat} {a : Option Addr} {xs : List Value} (h : w.ownsRow base 81 2 (.slice a n c) n xs) : PRow w base a n c xs := by
  by_cases hn : n = 0
  · exact .inl hn
  · right
    rcases h.2 with ⟨e, h0⟩ | ⟨g, cap, cur, e, hb, hg, q1, q2, q3, q4⟩
    · omega
    · simp only [Value.slice.injEq, true_and] at e
      obtain ⟨rfl, rfl⟩ := e
      refine ⟨g, rfl, hb, (Array.getElem?_eq_some_iff.1 hg).1, by have := h.1; omega, Nat.le_refl _, fun j hj => ?_, fun j hj => ?_, fun j _ => ?_⟩
      · rw [cell_of_row w g j cur 81 (0, 0) hg, ← q4, List.getElem?_take, if_pos (by omega)]; simp
      · rw [cell_of_row w g j cur 81 (0, 0) hg, Array.getElem?_eq_getElem (by omega)]; rfl
      · rw [World.frozen?, hg]; rfl
theorem pblk_below {g : Nat} {o : Obj} {w w' : World} (hb : Below w.heap.size w w') (h : w.heap[g]? = some o) : w'.heap[g]? = some o := (hb.block g (Array.getElem?_eq_some_iff.1 h).1).trans h
theorem retP {fn : Func} {R : Ending → World → Prop} {A : Act} {p : Tmp} {gb : Nat} {n : Int} {a : Option Addr} {m c : Nat} {W : World} (hres : fn.results = #[.cell p 31]) (hp : A.tmps.getD p undef = .pointer (some ⟨gb, 0, none⟩)) (hd : A.defers = []) (hn : W.heap[gb]? = some (.cells #[.int .i64 n, .slice a m c] 31))
    (h : R (.returned (.agg #[.int .i64 n, .slice a m c])) W) : bodyPost Tryz.prog fn R Exit.ret A W := by
  have c0 := Lib.cell_of_heap hn 0
  have c1 := Lib.cell_of_heap hn 1
  have hp' : A.tmps[p]?.getD undef = .pointer (some ⟨gb, 0, none⟩) := by simpa using hp
  refine bodyPost_ret (v := .agg #[.int .i64 n, .slice a m c]) ?_ hd h
  simp [results, hres, go_sem, asAddr, hp', c0, c1]
end Go.Proofs.YtibjhkpgaaapaaaGreatDoor
