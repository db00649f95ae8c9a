import Derived.Test.YtmoajibmbppkjaeGreatDoorZax
import Derived.Test.YtmoajibmbppkjaeGreatDoorZaz
import Derived.Deep.AppendLies
import Derived.Deep.Cut
import Derived.Test.YtmoajibmbppkjaeGreatDoorZaw
import Derived.Test.YtmoajibmbppkjaeGreatDoorZbd
namespace Go.Proofs.YtmoajibmbppkjaeGreatDoor
open Go.RowKit Go.Proofs.Sha

/-- Keys that grow. -/
def KeysUp : List ByteArray → Prop
  | [] => True
  | k :: ks => (∀ x ∈ ks, lessB k x = true) ∧ KeysUp ks
theorem bl_irr (a : List UInt8) : Op.bytesLess a a = false := by
  induction a with
  | nil => rfl
  | cons x y ih => rw [Op.bytesLess]; simp [ih]
theorem bl_tr : ∀ (a b c : List UInt8), Op.bytesLess a b = true → Op.bytesLess b c = true → Op.bytesLess a c = true
  | [], [], _, h, _ => by simp [Op.bytesLess] at h
  | [], _ :: _, [], _, k => by simp [Op.bytesLess] at k
  | [], _ :: _, _ :: _, _, _ => by simp [Op.bytesLess]
  | _ :: _, [], _, h, _ => by simp [Op.bytesLess] at h
  | _ :: _, _ :: _, [], _, k => by simp [Op.bytesLess] at k
  | x :: xs, y :: ys, z :: zs, h, k => by
    rw [Op.bytesLess] at h k ⊢
    simp only [Bool.or_eq_true, Bool.and_eq_true, decide_eq_true_eq, beq_iff_eq] at h k ⊢
    rcases h with h | ⟨rfl, h⟩
    · rcases k with k | ⟨rfl, k⟩
      · exact .inl (by rw [UInt8.lt_iff_toNat_lt] at *; omega)
      · exact .inl h
    · rcases k with k | ⟨rfl, k⟩
      · exact .inl k
      · exact .inr ⟨rfl, bl_tr xs ys zs h k⟩
theorem lessB_irr (a : ByteArray) : lessB a a = false := bl_irr _
theorem lessB_tr {a b c : ByteArray} (h : lessB a b = true) (k : lessB b c = true) : lessB a c = true := bl_tr _ _ _ h k
theorem lessB_or (a b : ByteArray) (h : lessB a b = false) (hne : a ≠ b) : lessB b a = true := by
  rw [lessB_tri] at h
  rcases (Bool.or_eq_true _ _).mp (by cases hq : (lessB b a || (b.toList == a.toList)) with | true => rfl | false => rw [hq] at h; cases h) with h | h
  · exact h
  · have e : b.toList = a.toList := by simpa using h
    rw [ByteArray.toList_eq, ByteArray.toList_eq] at e
    exact absurd (ByteArray.ext (Array.toList_inj.1 e.symm)) hne
theorem KeysUp.one : ∀ {a b : List ByteArray}, KeysUp a → KeysUp b → (∀ x, x ∈ a ↔ x ∈ b) → a = b
  | [], [], _, _, _ => rfl
  | [], y :: ys, _, _, h => absurd ((h y).2 (List.mem_cons_self)) (by simp)
  | x :: xs, [], _, _, h => absurd ((h x).1 (List.mem_cons_self)) (by simp)
  | x :: xs, y :: ys, ha, hb, h => by
    have e : x = y := by
      rcases List.mem_cons.1 ((h x).1 List.mem_cons_self) with h1 | h1
      · exact h1
      · rcases List.mem_cons.1 ((h y).2 List.mem_cons_self) with h2 | h2
        · exact h2.symm
        · have q1 := hb.1 x h1
          have q2 := ha.1 y h2
          have := lessB_tr q1 q2
          rw [lessB_irr] at this
          cases this
    subst e
    rw [KeysUp.one ha.2 hb.2 (fun z => ?_)]
    constructor
    · intro hz
      rcases List.mem_cons.1 ((h z).1 (List.mem_cons_of_mem _ hz)) with h1 | h1
      · subst h1
        have := ha.1 z hz
        rw [lessB_irr] at this
        cases this
      · exact h1
    · intro hz
      rcases List.mem_cons.1 ((h z).2 (List.mem_cons_of_mem _ hz)) with h1 | h1
      · subst h1
        have := hb.1 z hz
        rw [lessB_irr] at this
        cases this
      · exact h1
/-- The pairs but one key's. -/
def wout (ps : List PairT) (k : ByteArray) : List PairT := ps.filter fun p => decide (p.1 ≠ k)
/-- The pairs with a key set, where the rest grows. -/
def ins (k v : ByteArray) : List PairT → List PairT
  | [] => [(k, v)]
  | p :: ps => if lessB k p.1 = true then (k, v) :: p :: ps else p :: ins k v ps
def wth (ps : List PairT) (k v : ByteArray) : List PairT := ins k v (wout ps k)
abbrev keys (ps : List PairT) : List ByteArray := ps.map Prod.fst
theorem ku_wout {ps : List PairT} (h : KeysUp (keys ps)) (k : ByteArray) : KeysUp (keys (wout ps k)) := by
  induction ps with
  | nil => exact h
  | cons p ps ih =>
    unfold wout at ih ⊢
    rw [List.filter_cons]
    split
    · refine ⟨fun x hx => ?_, ih h.2⟩
      obtain ⟨y, hy, rfl⟩ := List.mem_map.1 hx
      exact h.1 _ (List.mem_map.2 ⟨y, (List.mem_filter.1 hy).1, rfl⟩)
    · exact ih h.2
theorem mem_wout {ps : List PairT} {k x : ByteArray} : x ∈ keys (wout ps k) ↔ x ∈ keys ps ∧ x ≠ k := by
  unfold wout
  constructor
  · intro h
    obtain ⟨y, hy, rfl⟩ := List.mem_map.1 h
    obtain ⟨h1, h2⟩ := List.mem_filter.1 hy
    exact ⟨List.mem_map.2 ⟨y, h1, rfl⟩, by simpa using h2⟩
  · rintro ⟨h, hn⟩
    obtain ⟨y, hy, rfl⟩ := List.mem_map.1 h
    exact List.mem_map.2 ⟨y, List.mem_filter.2 ⟨hy, by simpa using hn⟩, rfl⟩
theorem mem_ins {k v x : ByteArray} : ∀ {ps : List PairT}, x ∈ keys (ins k v ps) ↔ x = k ∨ x ∈ keys ps
  | [] => by simp [ins]
  | p :: ps => by
    rw [ins]
    split
    · simp
    · have ih := mem_ins (k := k) (v := v) (x := x) (ps := ps)
      simp only [keys, List.map_cons, List.mem_cons] at ih ⊢
      rw [ih]
      constructor
      · rintro (h | h | h)
        · exact .inr (.inl h)
        · exact .inl h
        · exact .inr (.inr h)
      · rintro (h | h | h)
        · exact .inr (.inl h)
        · exact .inl h
        · exact .inr (.inr h)
theorem ku_ins {k v : ByteArray} : ∀ {ps : List PairT}, KeysUp (keys ps) → (∀ x ∈ keys ps, x ≠ k) → KeysUp (keys (ins k v ps))
  | [], _, _ => ⟨fun _ h => by simp at h, trivial⟩
  | p :: ps, h, hn => by
    rw [ins]
    split
    · rename_i hl
      refine ⟨fun x hx => ?_, h⟩
      rcases List.mem_cons.1 hx with e | hx
      · rw [e]; exact hl
      · exact lessB_tr hl (h.1 x hx)
    · rename_i hl
      refine ⟨fun x hx => ?_, ku_ins h.2 (fun x hx => hn x (List.mem_cons_of_mem _ hx))⟩
      rcases mem_ins.1 hx with e | hx
      · rw [e]
        exact lessB_or _ _ (by simpa using hl) (fun e => hn p.1 List.mem_cons_self e.symm)
      · exact h.1 x hx
theorem ku_wth {ps : List PairT} (h : KeysUp (keys ps)) (k v : ByteArray) : KeysUp (keys (wth ps k v)) := ku_ins (ku_wout h k) (fun _ hx => (mem_wout.1 hx).2)
theorem mem_wth {ps : List PairT} {k v x : ByteArray} : x ∈ keys (wth ps k v) ↔ x = k ∨ x ∈ keys ps := by
  unfold wth
  rw [mem_ins, mem_wout]
  constructor
  · rintro (h | h)
    · exact .inl h
    · exact .inr h.1
  · rintro (h | h)
    · exact .inl h
    · by_cases e : x = k
      · exact .inl e
      · exact .inr ⟨h, e⟩
end Go.Proofs.YtmoajibmbppkjaeGreatDoor
namespace Go.Proofs.YtmoajibmbppkjaeGreatDoor
open Go.RowKit Go.Proofs.Sha

abbrev ChT := ByteArray × Bool × ByteArray × Bool × ByteArray
def getP : List PairT → ByteArray → ByteArray × Bool
  | [], _ => (⟨#[]⟩, false)
  | p :: ps, k => if p.1 = k then (p.2, true) else getP ps k
def chOf (ps qs : List PairT) (k : ByteArray) : Option ChT :=
  if (getP ps k).2 ≠ (getP qs k).2 ∨ (getP ps k).1 ≠ (getP qs k).1 then some (k, (getP ps k).2, (getP ps k).1, (getP qs k).2, (getP qs k).1) else none
/-- The changes, two lists gone through side by side. -/
def chg : List PairT → List PairT → List ChT
  | [], [] => []
  | p :: ps, [] => (p.1, true, p.2, false, ⟨#[]⟩) :: chg ps []
  | [], q :: qs => (q.1, false, ⟨#[]⟩, true, q.2) :: chg [] qs
  | p :: ps, q :: qs => if p.1 = q.1 then (if p.2 = q.2 then chg ps qs else (p.1, true, p.2, true, q.2) :: chg ps qs) else if lessB p.1 q.1 = true then (p.1, true, p.2, false, ⟨#[]⟩) :: chg ps (q :: qs) else (q.1, false, ⟨#[]⟩, true, q.2) :: chg (p :: ps) qs
termination_by ps qs => ps.length + qs.length
def kU : List PairT → List PairT → List ByteArray
  | [], [] => []
  | p :: ps, [] => p.1 :: kU ps []
  | [], q :: qs => q.1 :: kU [] qs
  | p :: ps, q :: qs => if p.1 = q.1 then p.1 :: kU ps qs else if lessB p.1 q.1 = true then p.1 :: kU ps (q :: qs) else q.1 :: kU (p :: ps) qs
termination_by ps qs => ps.length + qs.length
theorem mem_kU (x : ByteArray) : ∀ (n : Nat) (ps qs : List PairT), ps.length + qs.length = n → (x ∈ kU ps qs ↔ x ∈ keys ps ∨ x ∈ keys qs) := by
  intro n
  induction n using Nat.strongRecOn with
  | ind n ih =>
    intro ps qs hn
    match ps, qs with
    | [], [] => rw [kU]; simp
    | p :: ps, [] =>
      rw [kU, List.mem_cons, ih _ (by simp at hn ⊢; omega) ps [] rfl]
      simp
    | [], q :: qs =>
      rw [kU, List.mem_cons, ih _ (by simp at hn ⊢; omega) [] qs rfl]
      simp
    | p :: ps, q :: qs =>
      rw [kU]
      split
      · rename_i e
        rw [List.mem_cons, ih _ (by simp at hn ⊢; omega) ps qs rfl]
        simp only [keys, List.map_cons, List.mem_cons]
        rw [e]
        constructor
        · rintro (h | h | h)
          · exact .inl (.inl h)
          · exact .inl (.inr h)
          · exact .inr (.inr h)
        · rintro ((h | h) | (h | h))
          · exact .inl h
          · exact .inr (.inl h)
          · exact .inl h
          · exact .inr (.inr h)
      · split
        · rw [List.mem_cons, ih _ (by simp at hn ⊢; omega) ps (q :: qs) rfl]
          simp only [keys, List.map_cons, List.mem_cons]
          constructor
          · rintro (h | h | h)
            · exact .inl (.inl h)
            · exact .inl (.inr h)
            · exact .inr h
          · rintro ((h | h) | h)
            · exact .inl h
            · exact .inr (.inl h)
            · exact .inr (.inr h)
        · rw [List.mem_cons, ih _ (by simp at hn ⊢; omega) (p :: ps) qs rfl]
          simp only [keys, List.map_cons, List.mem_cons]
          constructor
          · rintro (h | h | h)
            · exact .inr (.inl h)
            · exact .inl h
            · exact .inr (.inr h)
          · rintro (h | (h | h))
            · exact .inr (.inl h)
            · exact .inl h
            · exact .inr (.inr h)
theorem getP_none {ps : List PairT} {k : ByteArray} (h : k ∉ keys ps) : getP ps k = (⟨#[]⟩, false) := by
  induction ps with
  | nil => rfl
  | cons p ps ih =>
    simp only [keys, List.map_cons, List.mem_cons, not_or] at h
    rw [getP, if_neg (fun e => h.1 e.symm)]
    exact ih h.2
theorem getP_hit (p : PairT) (ps : List PairT) : getP (p :: ps) p.1 = (p.2, true) := by rw [getP, if_pos rfl]
theorem getP_skip {p : PairT} {ps : List PairT} {k : ByteArray} (h : p.1 ≠ k) : getP (p :: ps) k = getP ps k := by rw [getP, if_neg h]
theorem ne_of_less {a b : ByteArray} (h : lessB a b = true) : a ≠ b := fun e => by subst e; rw [lessB_irr] at h; cases h
theorem fm_congr {f g : ByteArray → Option ChT} : ∀ {l : List ByteArray}, (∀ x ∈ l, f x = g x) → l.filterMap f = l.filterMap g
  | [], _ => rfl
  | a :: l, h => by rw [List.filterMap_cons, List.filterMap_cons, h a List.mem_cons_self, fm_congr (fun x hx => h x (List.mem_cons_of_mem _ hx))]
theorem chg_kU : ∀ (n : Nat) (ps qs : List PairT), ps.length + qs.length = n → KeysUp (keys ps) → KeysUp (keys qs) → KeysUp (kU ps qs) ∧ chg ps qs = (kU ps qs).filterMap (chOf ps qs) := by
  intro n
  induction n using Nat.strongRecOn with
  | ind n ih =>
    intro ps qs hn hp hq
    match ps, qs with
    | [], [] => rw [kU, chg]; exact ⟨trivial, rfl⟩
    | p :: ps, [] =>
      obtain ⟨i1, i2⟩ := ih _ (by simp at hn ⊢; omega) ps [] rfl hp.2 hq
      have hm : ∀ x ∈ kU ps [], lessB p.1 x = true := fun x hx => by
        rcases (mem_kU x _ ps [] rfl).1 hx with h | h
        · exact hp.1 x h
        · simp at h
      rw [kU, chg, i2]
      refine ⟨⟨hm, i1⟩, ?_⟩
      have e0 : chOf (p :: ps) [] p.1 = some (p.1, true, p.2, false, ⟨#[]⟩) := by
        unfold chOf
        rw [getP_hit, getP]
        simp
      rw [List.filterMap_cons, e0]
      congr 1
      refine fm_congr fun x hx => ?_
      unfold chOf
      rw [getP_skip (ne_of_less (hm x hx))]
    | [], q :: qs =>
      obtain ⟨i1, i2⟩ := ih _ (by simp at hn ⊢; omega) [] qs rfl hp hq.2
      have hm : ∀ x ∈ kU [] qs, lessB q.1 x = true := fun x hx => by
        rcases (mem_kU x _ [] qs rfl).1 hx with h | h
        · simp at h
        · exact hq.1 x h
      rw [kU, chg, i2]
      refine ⟨⟨hm, i1⟩, ?_⟩
      have e0 : chOf [] (q :: qs) q.1 = some (q.1, false, ⟨#[]⟩, true, q.2) := by
        unfold chOf
        rw [getP_hit, getP]
        simp
      rw [List.filterMap_cons, e0]
      congr 1
      refine fm_congr fun x hx => ?_
      unfold chOf
      rw [getP_skip (ps := qs) (ne_of_less (hm x hx))]
    | p :: ps, q :: qs =>
      rw [kU, chg]
      by_cases e : p.1 = q.1
      · rw [if_pos e, if_pos e]
        obtain ⟨i1, i2⟩ := ih _ (by simp at hn ⊢; omega) ps qs rfl hp.2 hq.2
        have hm : ∀ x ∈ kU ps qs, lessB p.1 x = true := fun x hx => by
          rcases (mem_kU x _ ps qs rfl).1 hx with h | h
          · exact hp.1 x h
          · rw [e]; exact hq.1 x h
        refine ⟨⟨hm, i1⟩, ?_⟩
        have hc : (kU ps qs).filterMap (chOf (p :: ps) (q :: qs)) = (kU ps qs).filterMap (chOf ps qs) := fm_congr fun x hx => by
          unfold chOf
          rw [getP_skip (ps := ps) (ne_of_less (hm x hx)), getP_skip (ps := qs) (by rw [← e]; exact ne_of_less (hm x hx))]
        have e0 : chOf (p :: ps) (q :: qs) p.1 = if p.2 = q.2 then none else some (p.1, true, p.2, true, q.2) := by
          unfold chOf
          rw [getP_hit]
          have : getP (q :: qs) p.1 = (q.2, true) := by rw [e]; exact getP_hit q qs
          rw [this]
          by_cases e2 : p.2 = q.2 <;> simp [e2]
        rw [List.filterMap_cons, e0, hc, i2]
        split <;> rfl
      · rw [if_neg e, if_neg e]
        cases hl : lessB p.1 q.1 with
        | true =>
          rw [if_pos rfl, if_pos rfl]
          obtain ⟨i1, i2⟩ := ih _ (by simp at hn ⊢; omega) ps (q :: qs) rfl hp.2 hq
          have hm : ∀ x ∈ kU ps (q :: qs), lessB p.1 x = true := fun x hx => by
            rcases (mem_kU x _ ps (q :: qs) rfl).1 hx with h | h
            · exact hp.1 x h
            · rcases List.mem_cons.1 h with h | h
              · rw [h]; exact hl
              · exact lessB_tr hl (hq.1 x h)
          refine ⟨⟨hm, i1⟩, ?_⟩
          have hnq : p.1 ∉ keys (q :: qs) := fun h => by
            rcases List.mem_cons.1 h with h | h
            · exact e h
            · have := lessB_tr hl (hq.1 _ h); rw [lessB_irr] at this; cases this
          have e0 : chOf (p :: ps) (q :: qs) p.1 = some (p.1, true, p.2, false, ⟨#[]⟩) := by
            unfold chOf
            rw [getP_hit, getP_none hnq]
            simp
          rw [List.filterMap_cons, e0, i2]
          congr 1
          refine fm_congr fun x hx => ?_
          unfold chOf
          rw [getP_skip (ps := ps) (ne_of_less (hm x hx))]
        | false =>
          rw [if_neg (by decide), if_neg (by decide)]
          have hl2 := lessB_or _ _ hl e
          obtain ⟨i1, i2⟩ := ih _ (by simp at hn ⊢; omega) (p :: ps) qs rfl hp hq.2
          have hm : ∀ x ∈ kU (p :: ps) qs, lessB q.1 x = true := fun x hx => by
            rcases (mem_kU x _ (p :: ps) qs rfl).1 hx with h | h
            · rcases List.mem_cons.1 h with h | h
              · rw [h]; exact hl2
              · exact lessB_tr hl2 (hp.1 x h)
            · exact hq.1 x h
          refine ⟨⟨hm, i1⟩, ?_⟩
          have hnq : q.1 ∉ keys (p :: ps) := fun h => by
            rcases List.mem_cons.1 h with h | h
            · exact e h.symm
            · have := lessB_tr hl2 (hp.1 _ h); rw [lessB_irr] at this; cases this
          have e0 : chOf (p :: ps) (q :: qs) q.1 = some (q.1, false, ⟨#[]⟩, true, q.2) := by
            unfold chOf
            rw [getP_hit, getP_none hnq]
            simp
          rw [List.filterMap_cons, e0, i2]
          congr 1
          refine fm_congr fun x hx => ?_
          unfold chOf
          rw [getP_skip (ps := qs) (ne_of_less (hm x hx))]
/-- Every key of either. -/
def uni (ps qs : List PairT) : List PairT := qs.foldl (fun a q => wth a q.1 ⟨#[]⟩) ps
theorem uni_up : ∀ (qs ps : List PairT), KeysUp (keys ps) → KeysUp (keys (uni ps qs)) ∧ ∀ x, x ∈ keys (uni ps qs) ↔ x ∈ keys ps ∨ x ∈ keys qs
  | [], ps, h => ⟨h, fun x => by simp [uni]⟩
  | q :: qs, ps, h => by
    obtain ⟨h1, h2⟩ := uni_up qs (wth ps q.1 ⟨#[]⟩) (ku_wth h _ _)
    refine ⟨h1, fun x => ?_⟩
    have h3 := h2 x
    rw [mem_wth] at h3
    show x ∈ keys (uni (wth ps q.1 ⟨#[]⟩) qs) ↔ _
    rw [h3]
    simp only [keys, List.map_cons, List.mem_cons]
    constructor
    · rintro ((h | h) | h)
      · exact .inr (.inl h)
      · exact .inl h
      · exact .inr (.inr h)
    · rintro (h | (h | h))
      · exact .inl (.inr h)
      · exact .inl (.inl h)
      · exact .inr h
/-- The model's changes are those of going side by side. -/
theorem chg_uni {ps qs : List PairT} (hp : KeysUp (keys ps)) (hq : KeysUp (keys qs)) : (keys (uni ps qs)).filterMap (chOf ps qs) = chg ps qs := by
  obtain ⟨h1, h2⟩ := uni_up qs ps hp
  obtain ⟨h3, h4⟩ := chg_kU _ ps qs rfl hp hq
  rw [h4, KeysUp.one h1 h3 (fun x => by rw [h2 x, mem_kU x _ ps qs rfl])]
end Go.Proofs.YtmoajibmbppkjaeGreatDoor
namespace Go.Proofs.YtmoajibmbppkjaeGreatDoor
open Go.RowKit Go.Proofs.Sha

theorem drop_getD (ps : List PairT) (i : Nat) (h : i < ps.length) : ps.drop i = ps.getD i noPair :: ps.drop (i + 1) := by
  rw [List.drop_eq_getElem_cons h]
  congr 1
  simp [List.getD_eq_getElem?_getD, List.getElem?_eq_getElem h]
theorem ba_eq {a b : ByteArray} : (a.toList == b.toList) = decide (a = b) := by
  by_cases e : a = b
  · subst e; simp
  · rw [decide_eq_false e, beq_eq_false_iff_ne]
    intro h
    rw [ByteArray.toList_eq, ByteArray.toList_eq] at h
    exact e (ByteArray.ext (Array.toList_inj.1 h))
set_option maxRecDepth 100000 in
set_option maxHeartbeats 400000 in
theorem get_any (a : Option Addr) (ps : List PairT) (c : Nat) (key : ByteArray) (w : World) (h : PArg a ps w) :
    Calls Tryz.prog 136 #[.slice a ps.length c, .string key] w fun e w' => e = .returned (.tuple #[.string (getP ps key).1, .bool (getP ps key).2]) ∧ Below w.heap.size w w' := by
  have hn := h.le
  obtain ⟨N, hN⟩ : ∃ N, ps.length = N := ⟨_, rfl⟩
  rw [hN] at hn ⊢
  have hNl : Hid (ps.length = N) := hN
  clear hN
  obtain ⟨G, hG⟩ : ∃ G, getP ps key = G := ⟨_, rfl⟩
  rw [hG]
  have HG : Hid (getP ps key = G) := hG
  clear hG
  go_enter Tryz.func136, Tryz.ntmps136
  go_wp2_with fail
  go_loopw [6] (fun t wr => ∃ k : Nat, k ≤ N ∧ t = .int .i64 (k : Int) ∧ Hid (getP (ps.drop k) key = G) ∧ Below w.heap.size w wr) (fun t _ => N - (intOf t).toNat)
  case atStart => exact ⟨0, Nat.zero_le _, rfl, HG.out, Below.refl _ _⟩
  case round =>
    obtain ⟨k, hk, rfl, hgk, hbw⟩ := hrel
    by_cases hlt : k < N
    · have z1 : decide ((k : Int) < (N : Int)) = true := by simp; omega
      have hx0 : (0 : Int) ≤ (k : Int) := Int.natCast_nonneg _
      have hx1 : (k : Int) < (N : Int) := by omega
      obtain ⟨b1, off1, rfl, hbl1, hc⟩ := (h.below hbw).at_ (by rw [hNl.out]; omega)
      obtain ⟨hc1, hc2⟩ := hc k (by rw [hNl.out]; exact hlt)
      have hgk' := hgk.out
      rw [drop_getD ps k (by rw [hNl.out]; exact hlt)] at hgk'
      generalize ps.getD k noPair = p at hc1 hc2 hgk'
      obtain ⟨pk, pv⟩ := p
      simp only at hc1 hc2
      rw [getP] at hgk'
      simp only at hgk'
      by_cases e : pk = key
      · rw [if_pos e] at hgk'
        have z2 : (pk.toList == key.toList) = true := by rw [ba_eq]; exact decide_eq_true e
        have HF : Hid (G = (pv, true)) := hgk'.symm
        clear hgk' hgk HG e hc
        go_wp2_with fail
        go_ret2
        exact ⟨by rw [HF.out]; rfl, hbw⟩
      · rw [if_neg e] at hgk'
        have z2 : (pk.toList == key.toList) = false := by rw [ba_eq]; exact decide_eq_false e
        have HF : Hid (getP (ps.drop (k + 1)) key = G) := hgk'
        clear hgk' hgk HG e hc
        go_wp2_with fail
        go_roundw
        case rel => exact ⟨k + 1, hlt, by go_num, HF.out, hbw⟩
        case measure => simp [intOf]; omega
    · obtain rfl : k = N := by omega
      have z1 : decide ((k : Int) < (k : Int)) = false := by simp
      have HF : Hid (G = (⟨#[]⟩, false)) := by
        have := hgk.out
        rw [List.drop_of_length_le (by rw [hNl.out]; exact Nat.le_refl _), getP] at this
        exact this.symm
      clear hgk HG
      go_wp2_with fail
      go_ret2
      exact ⟨by rw [HF.out]; rfl, hbw⟩
/-- A row of pairs of the call's own, while it is put together. -/
structure OwnP (w : World) (xs : List PairT) (a : Option Addr) (m c : Nat) (W : World) : Prop where
  own : W.ownsRow w.heap.size 46 2 (.slice a m c) m (flatP xs)
  bel : Below w.heap.size w W
  len : xs.length = m
theorem OwnP.below {w W W' : World} {xs : List PairT} {a : Option Addr} {m c : Nat} (h : OwnP w xs a m c W) (hb : Below W.heap.size W W') : OwnP w xs a m c W' :=
  ⟨own2_kept h.own (fun q _ hq => hb.block q hq), h.bel.trans (hb.mono h.bel.size), h.len⟩
theorem OwnP.more {w W W' : World} {xs : List PairT} {a : Option Addr} {m c m' g cap : Nat} {y : PairT} {o : Obj} (h : OwnP w xs a m c W) (hown : W'.ownsRow w.heap.size 46 2 (.slice (some ⟨g, 0, none⟩) m' cap) m' (flatP xs ++ [.string y.1, .string y.2])) (hgrow : (W.alloc o).grownBy W' (Value.slice a m c).ownBlock) (hm : m' = m + 1) : OwnP w (xs ++ [y]) (some ⟨g, 0, none⟩) m' cap W' := by
  have ha := h.below ((Below.refl W.heap.size W).alloc (Nat.le_refl _) o)
  refine ⟨by rw [flatP_app]; exact hown, ha.bel.grown hgrow ha.bel.size (fun q hq => (own2_cells ha.own hq).1), by rw [List.length_append, h.len, hm]; rfl⟩
/-- What a function that makes pairs answers. -/
def PairsAt (xs : List PairT) (w : World) (e : Ending) (w' : World) : Prop := ∃ a c, e = .returned (.slice a xs.length c) ∧ OwnP w xs a xs.length c w'
end Go.Proofs.YtmoajibmbppkjaeGreatDoor
namespace Go.Proofs.YtmoajibmbppkjaeGreatDoor
open Go.RowKit Go.Proofs.Sha

theorem take_getD (ps : List PairT) (i : Nat) (h : i < ps.length) : ps.take (i + 1) = ps.take i ++ [ps.getD i noPair] := by
  rw [List.take_add_one, List.getElem?_eq_getElem h]
  simp [List.getD_eq_getElem?_getD, List.getElem?_eq_getElem h]
theorem wout_app (a b : List PairT) (k : ByteArray) : wout (a ++ b) k = wout a k ++ wout b k := List.filter_append ..
theorem wout_le (ps : List PairT) (k : ByteArray) : (wout ps k).length ≤ ps.length := List.length_filter_le ..
theorem OwnP.nil (w : World) : OwnP w [] (some ⟨w.heap.size, 0, none⟩) 0 0 (w.alloc (.cells #[] 46)) :=
  ⟨own2_nil (Nat.le_refl _) (heap_alloc_new w _), (Below.refl _ _).alloc (Nat.le_refl _) _, rfl⟩
set_option maxRecDepth 100000 in
set_option maxHeartbeats 1000000 in
theorem without_any (a : Option Addr) (ps : List PairT) (c : Nat) (key : ByteArray) (w : World) (h : PArg a ps w) : Calls Tryz.prog 116 #[.slice a ps.length c, .string key] w (PairsAt (wout ps key) w) := by
  obtain ⟨i0, hi0, hz0, hz1, hz2⟩ := info_parts2 info37
  have hn := h.le
  obtain ⟨N, hN⟩ : ∃ N, ps.length = N := ⟨_, rfl⟩
  rw [hN] at hn ⊢
  have hNl : Hid (ps.length = N) := hN
  clear hN
  have hO := OwnP.nil w
  go_enter Tryz.func116, Tryz.ntmps116
  go_wp2_with fail
  go_loopw [5, 6] (fun t5 t6 wr => ∃ k : Nat, k ≤ N ∧ t6 = .int .i64 (k : Int) ∧ ∃ (a' : Option Addr) (m d' : Nat), t5 = .slice a' m d' ∧ OwnP w (wout (ps.take k) key) a' m d' wr) (fun _ t6 _ => N - (intOf t6).toNat)
  case atStart => exact ⟨0, Nat.zero_le _, rfl, _, _, _, rfl, hO⟩
  case round =>
    obtain ⟨k, hk, rfl, a', m, d', rfl, hW⟩ := hrel
    by_cases hlt : k < N
    · have z1 : decide ((k : Int) < (N : Int)) = true := by simp; omega
      have hx0 : (0 : Int) ≤ (k : Int) := Int.natCast_nonneg _
      have hx1 : (k : Int) < (N : Int) := by omega
      obtain ⟨b1, off1, rfl, hbl1, hc⟩ := (h.below hW.bel).at_ (by rw [hNl.out]; omega)
      obtain ⟨hc1, hc2⟩ := hc k (by rw [hNl.out]; exact hlt)
      have hml : m ≤ 1048576 := by have := hW.len; have := wout_le (ps.take k) key; rw [List.length_take] at this; omega
      have htk : Hid (wout (ps.take (k + 1)) key = wout (ps.take k) key ++ wout [ps.getD k noPair] key) := by
        show _ = _
        rw [take_getD ps k (by rw [hNl.out]; exact hlt), wout_app]
      generalize ps.getD k noPair = p at hc1 hc2 htk
      obtain ⟨pk, pv⟩ := p
      simp only at hc1 hc2
      have hbs := hW.bel.size
      by_cases e : pk = key
      · have z2 : (pk.toList == key.toList) = true := by rw [ba_eq, decide_eq_true e]
        have hf : Hid (wout [(pk, pv)] key = []) := by show _ = _; simp [wout, e]
        clear e hc
        go_wp2_with fail
        go_roundw
        case rel => exact ⟨k + 1, hlt, by go_num, _, _, _, rfl, by rw [htk.out, hf.out, List.append_nil]; exact hW⟩
        case measure => simp [intOf]; omega
      · have z2 : (pk.toList == key.toList) = false := by rw [ba_eq, decide_eq_false e]
        have hf : Hid (wout [(pk, pv)] key = [(pk, pv)]) := by show _ = _; simp [wout, e]
        have own := hW.own
        clear e hc
        go_wp2_with (at_builtin; refine wpList_append_lies _ rfl (.tmp 21) (.tmp 26) 26 rfl w.heap.size 46 i0 (.agg #[.string ⟨#[]⟩, .string ⟨#[]⟩]) 2 32 Tryz.underlying26 hi0 hz0 hz1 hz2 rfl (by decide) (.slice a' m d') m (flatP (wout (ps.take k) key)) rfl (own.alloc _) ⟨wr.heap.size, 0, none⟩ 1 1 [.string pk, .string pv] rfl rfl (World.news_of_block (heap_alloc_new wr _)) (by simp [Value.oneCell']) (by decide) (by unfold maxLen; omega) (by omega) (by simp; omega) (wr.heap.size + 1) (by simp) ?_; intro g5 c5 w5 hown5 hgrow5 hat5 hlt5)
        go_roundw
        case rel => exact ⟨k + 1, hlt, by go_num, _, _, _, rfl, by rw [htk.out, hf.out]; exact hW.more hown5 hgrow5 rfl⟩
        case measure => simp [intOf]; omega
    · obtain rfl : k = N := by omega
      have z1 : decide ((k : Int) < (k : Int)) = false := by simp
      rw [List.take_of_length_le (by rw [hNl.out]; exact Nat.le_refl _)] at hW
      have hl := hW.len
      subst hl
      go_wp2_with fail
      go_ret
      exact ⟨_, _, rfl, hW⟩
end Go.Proofs.YtmoajibmbppkjaeGreatDoor
namespace Go.Proofs.YtmoajibmbppkjaeGreatDoor
open Go.RowKit Go.Proofs.Sha

/-- How far the pairs with a key set are put together. -/
def Mid (rest : List PairT) (key val : ByteArray) (k : Nat) (out : List PairT) : Bool → Prop
  | true => out ++ rest.drop k = ins key val rest
  | false => out = rest.take k ∧ ins key val rest = rest.take k ++ ins key val (rest.drop k)
theorem drewN_below (w : World) (q : Nat) : Below w.heap.size w (w.drewN q) := draws_below _ (Below.refl _ _)
theorem Mid.start (rest : List PairT) (key val : ByteArray) : Mid rest key val 0 [] false := ⟨rfl, rfl⟩
theorem Mid.done {rest : List PairT} {key val : ByteArray} {k : Nat} {out : List PairT} (h : Mid rest key val k out true) (hk : k < rest.length) : Mid rest key val (k + 1) (out ++ [rest.getD k noPair]) true := by
  unfold Mid at h ⊢
  rw [← h, drop_getD rest k hk]
  simp
theorem Mid.now {rest : List PairT} {key val : ByteArray} {k : Nat} {out : List PairT} (h : Mid rest key val k out false) (hk : k < rest.length) (hl : lessB key (rest.getD k noPair).1 = true) : Mid rest key val (k + 1) (out ++ [(key, val)] ++ [rest.getD k noPair]) true := by
  unfold Mid at h ⊢
  obtain ⟨h1, h2⟩ := h
  rw [h2, drop_getD rest k hk, ins, if_pos hl, h1]
  simp
theorem Mid.past {rest : List PairT} {key val : ByteArray} {k : Nat} {out : List PairT} (h : Mid rest key val k out false) (hk : k < rest.length) (hl : lessB key (rest.getD k noPair).1 = false) : Mid rest key val (k + 1) (out ++ [rest.getD k noPair]) false := by
  unfold Mid at h ⊢
  obtain ⟨h1, h2⟩ := h
  rw [take_getD rest k hk, h1]
  refine ⟨rfl, ?_⟩
  rw [h2, drop_getD rest k hk, ins, if_neg (by rw [hl]; decide)]
  simp
theorem OwnP.up {w w1 W : World} {xs : List PairT} {a : Option Addr} {m c : Nat} (h : OwnP w1 xs a m c W) (hb : Below w.heap.size w w1) : OwnP w xs a m c W :=
  ⟨own2_mono h.own hb.size, hb.trans (h.bel.mono hb.size), h.len⟩
theorem ownp_parg {w W : World} {c m : Nat} {a : Option Addr} {ps : List PairT} (h : OwnP w ps a m c W) (hs : SmallP ps) : PArg a ps W := by
  have hl := h.len
  subst hl
  exact own_parg h.own hs
theorem Mid.len {rest : List PairT} {key val : ByteArray} {k : Nat} {out : List PairT} {d : Bool} (h : Mid rest key val k out d) : out.length ≤ rest.length + 1 := by
  have hi : ∀ l : List PairT, (ins key val l).length = l.length + 1 := fun l => by
    induction l with
    | nil => rfl
    | cons p l ih => rw [ins]; split <;> simp [ih]
  cases d with
  | true =>
    have := congrArg List.length h
    rw [List.length_append, hi] at this
    omega
  | false =>
    rw [h.1, List.length_take]
    omega
set_option maxRecDepth 100000 in
set_option maxHeartbeats 2000000 in
theorem with_any (a : Option Addr) (ps : List PairT) (c : Nat) (key val : ByteArray) (w : World) (h : PArg a ps w) (hks : key.size ≤ 1048576) (hpl : ps.length ≤ 100000) : Calls Tryz.prog 117 #[.slice a ps.length c, .string key, .string val] w (PairsAt (wth ps key val) w) := by
  obtain ⟨i0, hi0, hz0, hz1, hz2⟩ := info_parts2 info37
  have HO := without_any a ps c key w h
  have hrs : SmallP (wout ps key) := by
    refine ⟨Nat.le_trans (wout_le ps key) h.le, fun j => ?_⟩
    by_cases hj : j < (wout ps key).length
    · have hm : (wout ps key)[j] ∈ ps := (List.mem_filter.1 (List.getElem_mem hj)).1
      obtain ⟨i, hi, e⟩ := List.getElem_of_mem hm
      have := h.sz i
      rw [List.getD_eq_getElem?_getD, List.getElem?_eq_getElem hi, Option.getD_some, e] at this
      rw [List.getD_eq_getElem?_getD, List.getElem?_eq_getElem hj, Option.getD_some]
      exact this
    · rw [pget_out _ _ (by omega)]
      exact ⟨Nat.zero_le _, Nat.zero_le _⟩
  have hrl : (wout ps key).length ≤ 100000 := Nat.le_trans (wout_le ps key) hpl
  unfold wth
  generalize wout ps key = rest at HO hrs hrl ⊢
  go_enter Tryz.func117, Tryz.ntmps117
  go_upto_region 2 with (first | (go_at_call 116; refine HO.mono ?_; rintro e w1 ⟨a1, c1, rfl, hO1⟩))
  have hb1 := hO1.bel
  have hp1 := ownp_parg hO1 hrs
  have hO2 := OwnP.nil w1
  obtain ⟨N, hN⟩ : ∃ N, rest.length = N := ⟨_, rfl⟩
  rw [hN] at hrl ⊢
  have hNl : Hid (rest.length = N) := hN
  clear hN hO1 HO
  go_wp2_with fail
  go_loopw [8, 9, 10] (fun t8 t9 t10 wr => ∃ k : Nat, k ≤ N ∧ t10 = .int .i64 (k : Int) ∧ ∃ (d : Bool) (a' : Option Addr) (m d' : Nat) (out : List PairT), t9 = .bool d ∧ t8 = .slice a' m d' ∧ OwnP w1 out a' m d' wr ∧ Hid (Mid rest key val k out d)) (fun _ _ t10 _ => N - (intOf t10).toNat)
  case atStart => exact ⟨0, Nat.zero_le _, rfl, false, _, _, _, [], rfl, rfl, hO2, Mid.start rest key val⟩
  case round =>
    obtain ⟨k, hk, rfl, d, a', m, d', out, rfl, rfl, hW, hM⟩ := hrel
    have hml : m ≤ 100001 := by have := hW.len; have := hM.out.len; rw [hNl.out] at this; omega
    have hbs := hW.bel.size
    have own := hW.own
    by_cases hlt : k < N
    · have z1 : decide ((k : Int) < (N : Int)) = true := by simp; omega
      have hx0 : (0 : Int) ≤ (k : Int) := Int.natCast_nonneg _
      have hx1 : (k : Int) < (N : Int) := by omega
      have hkr : Hid (k < rest.length) := by show _ < _; rw [hNl.out]; exact hlt
      obtain ⟨b1, off1, rfl, hbl1, hc⟩ := (hp1.below hW.bel).at_ (by rw [hNl.out]; omega)
      obtain ⟨hc1, hc2⟩ := hc k hkr.out
      have hsz := (hrs.2 k).1
      have Mdone : Hid (d = true → Mid rest key val (k + 1) (out ++ [rest.getD k noPair]) true) := fun e => by subst e; exact hM.out.done hkr.out
      have Mnow : Hid (d = false → lessB key (rest.getD k noPair).1 = true → Mid rest key val (k + 1) (out ++ [(key, val)] ++ [rest.getD k noPair]) true) := fun e => by subst e; exact hM.out.now hkr.out
      have Mpast : Hid (d = false → lessB key (rest.getD k noPair).1 = false → Mid rest key val (k + 1) (out ++ [rest.getD k noPair]) false) := fun e => by subst e; exact hM.out.past hkr.out
      obtain ⟨p, hpp⟩ : ∃ p, rest.getD k noPair = p := ⟨_, rfl⟩
      have hpe : Hid (rest.getD k noPair = p) := hpp
      rw [hpp] at hc1 hc2 hsz Mdone Mnow Mpast
      clear hpp
      obtain ⟨pk, pv⟩ := p
      simp only at hc1 hc2 hsz
      have hbl2 : b1 < wr.heap.size := hbl1
      clear hc hM
      cases d with
      | true =>
        go_wp2_with (at_builtin; refine wpList_append_lies _ rfl (.tmp 38) (.tmp 43) 26 rfl w1.heap.size 46 i0 (.agg #[.string ⟨#[]⟩, .string ⟨#[]⟩]) 2 32 Tryz.underlying26 hi0 hz0 hz1 hz2 rfl (by decide) (.slice a' m d') m (flatP out) rfl (own.alloc _) ⟨wr.heap.size, 0, none⟩ 1 1 [.string pk, .string pv] rfl rfl (World.news_of_block (heap_alloc_new wr _)) (by simp [Value.oneCell']) (by decide) (by unfold maxLen; omega) (by omega) (by simp; omega) (wr.heap.size + 1) (by simp) ?_; intro g5 c5 w5 hown5 hgrow5 hat5 hlt5)
        go_roundw
        case rel => exact ⟨k + 1, hlt, by go_num, true, _, _, _, _, rfl, rfl, hW.more hown5 hgrow5 rfl, Mdone.out (by first | rfl | trivial)⟩
        case measure => simp [intOf]; omega
      | false =>
        have HL := lessS_q key pk wr hks hsz
        cases hl : lessB key pk with
        | false =>
          rw [hl] at HL
          go_upto_region 10 with (first | (go_at_call 119; refine HL.mono ?_; rintro e w3 ⟨rfl, q, rfl⟩))
          have hW3 := hW.below (drewN_below wr q)
          have own3 := hW3.own
          have hd1 := ((drewN_below wr q).cell (p := ⟨b1, off1 + k * 2, none⟩) hbl2).trans hc1
          have hd2 := ((drewN_below wr q).cell (p := ⟨b1, off1 + k * 2 + 1, none⟩) hbl2).trans hc2
          have hbs3 := hW3.bel.size
          clear own hc1 hc2 HL
          generalize wr.drewN q = w3 at *
          go_wp2_with (at_builtin; refine wpList_append_lies _ rfl (.tmp 38) (.tmp 43) 26 rfl w1.heap.size 46 i0 (.agg #[.string ⟨#[]⟩, .string ⟨#[]⟩]) 2 32 Tryz.underlying26 hi0 hz0 hz1 hz2 rfl (by decide) (.slice a' m d') m (flatP out) rfl (own3.alloc _) ⟨w3.heap.size, 0, none⟩ 1 1 [.string pk, .string pv] rfl rfl (World.news_of_block (heap_alloc_new w3 _)) (by simp [Value.oneCell']) (by decide) (by unfold maxLen; omega) (by omega) (by simp; omega) (w3.heap.size + 1) (by simp) ?_; intro g5 c5 w5 hown5 hgrow5 hat5 hlt5)
          go_roundw
          case rel => exact ⟨k + 1, hlt, by go_num, false, _, _, _, _, rfl, rfl, hW3.more hown5 hgrow5 rfl, Mpast.out (by first | rfl | trivial) hl⟩
          case measure => simp [intOf]; omega
        | true =>
          rw [hl] at HL
          go_upto_region 8 with (first | (go_at_call 119; refine HL.mono ?_; rintro e w3 ⟨rfl, q, rfl⟩))
          have hW3 := hW.below (drewN_below wr q)
          have own3 := hW3.own
          have hd1 := ((drewN_below wr q).cell (p := ⟨b1, off1 + k * 2, none⟩) hbl2).trans hc1
          have hd2 := ((drewN_below wr q).cell (p := ⟨b1, off1 + k * 2 + 1, none⟩) hbl2).trans hc2
          have hbs3 := hW3.bel.size
          clear own hc1 hc2 HL
          generalize wr.drewN q = w3 at *
          go_upto_region 9 with (at_builtin; refine wpList_append_lies _ rfl (.tmp 32) (.tmp 36) 26 rfl w1.heap.size 46 i0 (.agg #[.string ⟨#[]⟩, .string ⟨#[]⟩]) 2 32 Tryz.underlying26 hi0 hz0 hz1 hz2 rfl (by decide) (.slice a' m d') m (flatP out) rfl (own3.alloc _) ⟨w3.heap.size, 0, none⟩ 1 1 [.string key, .string val] rfl rfl (World.news_of_block (heap_alloc_new w3 _)) (by simp [Value.oneCell']) (by decide) (by unfold maxLen; omega) (by omega) (by simp; omega) (w3.heap.size + 1) (by simp) ?_; intro g5 c5 w5 hown5 hgrow5 hat5 hlt5)
          have hW5 := hW3.more (y := (key, val)) hown5 hgrow5 rfl
          have hp5 := hp1.below hW5.bel
          have own5 := hW5.own
          have hbs5 := hW5.bel.size
          obtain ⟨b2, off2, e2, hbl5, hc5⟩ := hp5.at_ (by rw [hNl.out]; omega)
          cases e2
          obtain ⟨hd1, hd2⟩ := hc5 k hkr.out
          have Mn := Mnow.out (by first | rfl | trivial) hl
          replace Mn : Hid _ := Mn
          have hgd : (rest.getD k noPair) = (pk, pv) := hpe.out
          rw [hgd] at hd1 hd2
          simp only at hd1 hd2
          clear own3 hc5 hgd
          go_wp2_with (at_builtin; refine wpList_append_lies _ rfl (.tmp 38) (.tmp 43) 26 rfl w1.heap.size 46 i0 (.agg #[.string ⟨#[]⟩, .string ⟨#[]⟩]) 2 32 Tryz.underlying26 hi0 hz0 hz1 hz2 rfl (by decide) (.slice (some ⟨g5, 0, none⟩) (m + 1) c5) (m + 1) (flatP (out ++ [(key, val)])) rfl (own5.alloc _) ⟨w5.heap.size, 0, none⟩ 1 1 [.string pk, .string pv] rfl rfl (World.news_of_block (heap_alloc_new w5 _)) (by simp [Value.oneCell']) (by decide) (by unfold maxLen; omega) (by omega) (by simp; omega) (w5.heap.size + 1) (by simp) ?_; intro g6 c6 w6 hown6 hgrow6 hat6 hlt6)
          go_roundw
          case rel => exact ⟨k + 1, hlt, by go_num, true, _, _, _, _, rfl, rfl, hW5.more hown6 hgrow6 rfl, Mn.out⟩
          case measure => simp [intOf]; omega
    · obtain rfl : k = N := by omega
      have z1 : decide ((k : Int) < (k : Int)) = false := by simp
      cases d with
      | true =>
        have hfin : Hid (out = ins key val rest) := by
          have := hM.out
          unfold Mid at this
          rw [List.drop_of_length_le (by rw [hNl.out]; exact Nat.le_refl _), List.append_nil] at this
          exact this
        have HF : Hid (PairsAt (ins key val rest) w (.returned (.slice a' m d')) wr) := by
          have hl := hW.len
          subst hl
          rw [← hfin.out]
          exact ⟨_, _, rfl, hW.up hb1⟩
        clear hM hfin own
        go_wp2_with fail
        go_ret
        exact HF.out
      | false =>
        have hfin : Hid (out ++ [(key, val)] = ins key val rest) := by
          have := hM.out
          unfold Mid at this
          obtain ⟨h1, h2⟩ := this
          rw [List.drop_of_length_le (by rw [hNl.out]; exact Nat.le_refl _), ins] at h2
          show _ = _
          rw [h2, h1]
        clear hM
        go_wp2_with (at_builtin; refine wpList_append_lies _ rfl (.tmp 47) (.tmp 51) 26 rfl w1.heap.size 46 i0 (.agg #[.string ⟨#[]⟩, .string ⟨#[]⟩]) 2 32 Tryz.underlying26 hi0 hz0 hz1 hz2 rfl (by decide) (.slice a' m d') m (flatP out) rfl (own.alloc _) ⟨wr.heap.size, 0, none⟩ 1 1 [.string key, .string val] rfl rfl (World.news_of_block (heap_alloc_new wr _)) (by simp [Value.oneCell']) (by decide) (by unfold maxLen; omega) (by omega) (by simp; omega) (wr.heap.size + 1) (by simp) ?_; intro g5 c5 w5 hown5 hgrow5 hat5 hlt5)
        go_ret
        have hW5 := hW.more (y := (key, val)) hown5 hgrow5 rfl
        rw [hfin.out] at hW5
        have hl := hW5.len
        exact ⟨some ⟨g5, 0, none⟩, c5, by rw [hl]; rfl, by rw [hl]; exact hW5.up hb1⟩
end Go.Proofs.YtmoajibmbppkjaeGreatDoor
namespace Go.Proofs.YtmoajibmbppkjaeGreatDoor
open Go.RowKit Go.Proofs.Sha

theorem ownG_cells {w : World} {base g n t z : Nat} {v : Value} {xs : List Value} (h : w.ownsRow base t z v n xs) (hv : v.ownBlock = some g) : base ≤ g ∧ g < w.heap.size ∧ ∃ cur, w.heap[g]? = some (.cells cur t (0, 0)) := by
  rcases h.2 with ⟨rfl, _⟩ | ⟨g', cap, cur, rfl, hb, hg, _⟩
  · cases hv
  · obtain rfl : g' = g := Option.some.inj hv
    exact ⟨hb, (Array.getElem?_eq_some_iff.1 hg).1, cur, hg⟩
theorem ownG_kept {w w' : World} {base n t z : Nat} {v : Value} {xs : List Value} (h : w.ownsRow base t z v n xs) (hk : ∀ g, v.ownBlock = some g → g < w.heap.size → w'.heap[g]? = w.heap[g]?) : w'.ownsRow base t z v n xs := by
  refine ⟨h.1, ?_⟩
  rcases h.2 with ⟨h1, h2⟩ | ⟨g, cap, cur, hv, hb, hg, rest⟩
  · exact .inl ⟨h1, h2⟩
  · exact .inr ⟨g, cap, cur, hv, hb, (hk g (by rw [hv]; rfl) (Array.getElem?_eq_some_iff.1 hg).1).trans hg, rest⟩
theorem ownG_mono {w : World} {base base' n t z : Nat} {v : Value} {xs : List Value} (h : w.ownsRow base t z v n xs) (hb : base' ≤ base) : w.ownsRow base' t z v n xs := by
  refine ⟨h.1, ?_⟩
  rcases h.2 with ⟨h1, h2⟩ | ⟨g, cap, cur, hv, hg, rest⟩
  · exact .inl ⟨h1, h2⟩
  · exact .inr ⟨g, cap, cur, hv, Nat.le_trans hb hg, rest⟩
/-- Changes, as cells. -/
def chL (x : ChT) : List Value := [.string x.1, .bool x.2.1, .string x.2.2.1, .bool x.2.2.2.1, .string x.2.2.2.2]
def flatC : List ChT → List Value
  | [] => []
  | x :: xs => chL x ++ flatC xs
theorem flatC_app : ∀ l m : List ChT, flatC (l ++ m) = flatC l ++ flatC m
  | [], _ => rfl
  | x :: l, m => by rw [List.cons_append, flatC, flatC, flatC_app l m, List.append_assoc]
theorem flatC_len : ∀ l : List ChT, (flatC l).length = l.length * 5
  | [] => rfl
  | x :: l => by rw [flatC, List.length_append, flatC_len l, List.length_cons]; show 5 + _ = _; omega
theorem info115 : (Tryz.prog.info? 115).map (fun i => (i.zero, i.size, i.bytes)) = some (some (.agg #[.string ⟨#[]⟩, .bool false, .string ⟨#[]⟩, .bool false, .string ⟨#[]⟩]), 5, 64) := by kernel_rfl
structure OwnC (w : World) (xs : List ChT) (a : Option Addr) (m c : Nat) (W : World) : Prop where
  own : W.ownsRow w.heap.size 115 5 (.slice a m c) m (flatC xs)
  bel : Below w.heap.size w W
  len : xs.length = m
theorem OwnC.below {w W W' : World} {xs : List ChT} {a : Option Addr} {m c : Nat} (h : OwnC w xs a m c W) (hb : Below W.heap.size W W') : OwnC w xs a m c W' :=
  ⟨ownG_kept h.own (fun q _ hq => hb.block q hq), h.bel.trans (hb.mono h.bel.size), h.len⟩
theorem OwnC.more {w W W' : World} {xs : List ChT} {a : Option Addr} {m c m' g cap : Nat} {y : ChT} {o : Obj} (h : OwnC w xs a m c W) (hown : W'.ownsRow w.heap.size 115 5 (.slice (some ⟨g, 0, none⟩) m' cap) m' (flatC xs ++ chL y)) (hgrow : (W.alloc o).grownBy W' (Value.slice a m c).ownBlock) (hm : m' = m + 1) : OwnC w (xs ++ [y]) (some ⟨g, 0, none⟩) m' cap W' := by
  have ha := h.below ((Below.refl W.heap.size W).alloc (Nat.le_refl _) o)
  refine ⟨by rw [flatC_app]; show W'.ownsRow _ _ _ _ _ (flatC xs ++ (chL y ++ [])); rw [List.append_nil]; exact hown, ha.bel.grown hgrow ha.bel.size (fun q hq => (ownG_cells ha.own hq).1), by rw [List.length_append, h.len, hm]; rfl⟩
theorem OwnC.up {w w1 W : World} {xs : List ChT} {a : Option Addr} {m c : Nat} (h : OwnC w1 xs a m c W) (hb : Below w.heap.size w w1) : OwnC w xs a m c W :=
  ⟨ownG_mono h.own hb.size, hb.trans (h.bel.mono hb.size), h.len⟩
theorem OwnC.nil (w : World) : OwnC w [] (some ⟨w.heap.size, 0, none⟩) 0 0 (w.alloc (.cells #[] 115)) :=
  ⟨⟨rfl, .inr ⟨w.heap.size, 0, #[], rfl, (Nat.le_refl _), (heap_alloc_new w _), by simp [flatC]⟩⟩, (Below.refl _ _).alloc (Nat.le_refl _) _, rfl⟩
theorem OwnC.none (w : World) : OwnC w [] Option.none 0 0 w := ⟨⟨rfl, .inl ⟨rfl, rfl⟩⟩, Below.refl _ _, rfl⟩
/-- What a function that makes changes answers. -/
def ChAt (xs : List ChT) (w : World) (e : Ending) (w' : World) : Prop := ∃ a c, e = .returned (.slice a xs.length c) ∧ OwnC w xs a xs.length c w'
/-- Pairs whose texts are in bounds. -/
def Bd (L : List PairT) : Prop := ∀ p ∈ L, p.1.size ≤ 1048576 ∧ p.2.size ≤ 1048576
theorem Bd.small {L : List PairT} (h : Bd L) (hl : L.length ≤ 1048576) : SmallP L := by
  refine ⟨hl, fun j => ?_⟩
  by_cases hj : j < L.length
  · rw [List.getD_eq_getElem?_getD, List.getElem?_eq_getElem hj, Option.getD_some]
    exact h _ (List.getElem_mem hj)
  · rw [pget_out _ _ (by omega)]
    exact ⟨Nat.zero_le _, Nat.zero_le _⟩
theorem mem_ins' {k v : ByteArray} {x : PairT} : ∀ {ps : List PairT}, x ∈ ins k v ps → x = (k, v) ∨ x ∈ ps
  | [], h => by simpa [ins] using h
  | p :: ps, h => by
    rw [ins] at h
    split at h
    · simpa using h
    · rcases List.mem_cons.1 h with h | h
      · exact .inr (by rw [h]; exact List.mem_cons_self)
      · rcases mem_ins' h with h | h
        · exact .inl h
        · exact .inr (List.mem_cons_of_mem _ h)
theorem Bd.wth {L : List PairT} (h : Bd L) {k v : ByteArray} (hk : k.size ≤ 1048576) (hv : v.size ≤ 1048576) : Bd (wth L k v) := fun p hp => by
  rcases mem_ins' hp with e | e
  · rw [e]; exact ⟨hk, hv⟩
  · exact h p (List.mem_filter.1 e).1
theorem wth_len (L : List PairT) (k v : ByteArray) : (wth L k v).length ≤ L.length + 1 := by
  have hi : ∀ l : List PairT, (ins k v l).length = l.length + 1 := fun l => by
    induction l with
    | nil => rfl
    | cons p l ih => rw [ins]; split <;> simp [ih]
  unfold Proofs.YtmoajibmbppkjaeGreatDoor.wth
  rw [hi]
  have := wout_le L k
  omega
theorem uni_take (ps qs : List PairT) (k : Nat) (h : k < qs.length) : uni ps (qs.take (k + 1)) = wth (uni ps (qs.take k)) (qs.getD k noPair).1 ⟨#[]⟩ := by
  unfold uni
  rw [take_getD qs k h, List.foldl_append]
  rfl
theorem uni_len (ps qs : List PairT) : (uni ps qs).length ≤ ps.length + qs.length := by
  unfold uni
  induction qs generalizing ps with
  | nil => exact Nat.le_refl _
  | cons q qs ih =>
    rw [List.foldl_cons]
    have h1 := ih (wth ps q.1 ⟨#[]⟩)
    have h2 := wth_len ps q.1 ⟨#[]⟩
    rw [List.length_cons]
    omega
end Go.Proofs.YtmoajibmbppkjaeGreatDoor
namespace Go.Proofs.YtmoajibmbppkjaeGreatDoor
open Go.RowKit Go.Proofs.Sha

theorem filterMap_take (f : ByteArray → Option ChT) (ks : List ByteArray) (k : Nat) (_h : k < ks.length) (x : ByteArray) (hx : ks[k]? = some x) : (ks.take (k + 1)).filterMap f = (ks.take k).filterMap f ++ (match f x with | some y => [y] | none => []) := by
  rw [List.take_add_one, hx, List.filterMap_append]
  simp only [Option.toList_some, List.filterMap_cons, List.filterMap_nil]
  cases f x <;> rfl
theorem keys_get (L : List PairT) (k : Nat) (h : k < L.length) : (keys L)[k]? = some (L.getD k noPair).1 := by
  simp [keys, List.getElem?_map, List.getElem?_eq_getElem h, List.getD_eq_getElem?_getD]
set_option maxRecDepth 100000 in
set_option maxHeartbeats 2000000 in
theorem changes_any (a b : Option Addr) (ps qs : List PairT) (c d : Nat) (w : World) (h : PArg a ps w) (h' : PArg b qs w) (hp : ps.length ≤ 500) (hq : qs.length ≤ 500) (bp : Bd ps) (_bq : Bd qs) : Calls Tryz.prog 85 #[.slice a ps.length c, .slice b qs.length d] w (ChAt ((keys (uni ps qs)).filterMap (chOf ps qs)) w) := by
  obtain ⟨i0, hi0, hz0, hz1, hz2⟩ := info_parts2 info115
  obtain ⟨N, hN⟩ : ∃ N, qs.length = N := ⟨_, rfl⟩
  rw [hN] at hq ⊢
  have hNl : Hid (qs.length = N) := hN
  clear hN
  have HW : Hid (∀ (a' : Option Addr) (L : List PairT) (c' : Nat) (key : ByteArray) (w' : World), PArg a' L w' → key.size ≤ 1048576 → L.length ≤ 100000 → Calls Tryz.prog 117 #[.slice a' L.length c', .string key, .string ⟨#[]⟩] w' (PairsAt (wth L key ⟨#[]⟩) w')) := fun a' L c' key w' q1 q2 q3 => with_any a' L c' key ⟨#[]⟩ w' q1 q2 q3
  have HGp : Hid (∀ (key : ByteArray) (w' : World), Below w.heap.size w w' → Calls Tryz.prog 136 #[.slice a ps.length c, .string key] w' fun e w'' => e = .returned (.tuple #[.string (getP ps key).1, .bool (getP ps key).2]) ∧ Below w'.heap.size w' w'') := fun key w' hb => get_any a ps c key w' (h.below hb)
  have HGq : Hid (∀ (key : ByteArray) (w' : World), Below w.heap.size w w' → Calls Tryz.prog 136 #[.slice b N d, .string key] w' fun e w'' => e = .returned (.tuple #[.string (getP qs key).1, .bool (getP qs key).2]) ∧ Below w'.heap.size w' w'') := fun key w' hb => by have := get_any b qs d key w' (h'.below hb); rw [hNl.out] at this; exact this
  go_enter Tryz.func85, Tryz.ntmps85
  go_wp2_with fail
  go_loopw [5, 6] (fun t5 t6 wr => ∃ k : Nat, k ≤ N ∧ t6 = .int .i64 (k : Int) ∧ ∃ (a' : Option Addr) (m c' : Nat), t5 = .slice a' m c' ∧ Hid ((uni ps (qs.take k)).length = m ∧ Bd (uni ps (qs.take k)) ∧ PArg a' (uni ps (qs.take k)) wr) ∧ Below w.heap.size w wr) (fun _ t6 _ => N - (intOf t6).toNat)
  case atStart => exact ⟨0, Nat.zero_le _, rfl, a, ps.length, c, rfl, ⟨rfl, bp, h⟩, Below.refl _ _⟩
  case round =>
    obtain ⟨k, hk, rfl, a', m, c', rfl, hI, hbw⟩ := hrel
    by_cases hlt : k < N
    · have z1 : decide ((k : Int) < (N : Int)) = true := by simp; omega
      have hx0 : (0 : Int) ≤ (k : Int) := Int.natCast_nonneg _
      have hx1 : (k : Int) < (N : Int) := by omega
      have hkr : Hid (k < qs.length) := by show _ < _; rw [hNl.out]; exact hlt
      obtain ⟨b1, off1, rfl, hbl1, hc⟩ := (h'.below hbw).at_ (by rw [hNl.out]; omega)
      obtain ⟨hc1, hc2⟩ := hc k hkr.out
      have hut := uni_take ps qs k hkr.out
      have hks : (qs.getD k noPair).1.size ≤ 1048576 := (h'.sz k).1
      obtain ⟨i1, i2, i3⟩ := hI.out
      have hul : (uni ps (qs.take k)).length ≤ 1000 := by have := uni_len ps (qs.take k); rw [List.length_take] at this; omega
      have HWk := HW.out a' (uni ps (qs.take k)) c' (qs.getD k noPair).1 wr i3 hks (by omega)
      have hbd := i2.wth (v := ⟨#[]⟩) hks (Nat.zero_le _)
      rw [← hut] at HWk hbd
      rw [i1] at HWk
      have HF : Hid (∀ w' a2 c2, OwnP wr (uni ps (qs.take (k + 1))) a2 (uni ps (qs.take (k + 1))).length c2 w' → PArg a2 (uni ps (qs.take (k + 1))) w') := fun w' a2 c2 hO => ownp_parg hO (hbd.small (by have := uni_len ps (qs.take (k + 1)); rw [List.length_take] at this; omega))
      have HBd : Hid (Bd (uni ps (qs.take (k + 1)))) := hbd
      generalize (qs.getD k noPair).1 = qk at *
      clear hI hut i1 i2 i3 hc hbd hul
      go_wp2_with (first | (go_at_call 117; refine HWk.mono ?_; rintro e w3 ⟨a2, c2, rfl, hO⟩))
      go_roundw
      case rel => exact ⟨k + 1, hlt, by go_num, a2, _, c2, rfl, ⟨rfl, HBd.out, HF.out _ _ _ hO⟩, hbw.trans (hO.bel.mono hbw.size)⟩
      case measure => simp [intOf]; omega
    · obtain rfl : k = N := by omega
      have z1 : decide ((k : Int) < (k : Int)) = false := by simp
      have htk : qs.take k = qs := List.take_of_length_le (by rw [hNl.out]; exact Nat.le_refl _)
      rw [htk] at hI
      obtain ⟨i1, i2, i3⟩ := hI.out
      have hul := uni_len ps qs
      rw [i1, hNl.out] at hul
      have hU : Hid ((uni ps qs).length = m) := i1
      obtain ⟨U, hUe⟩ : ∃ U, uni ps qs = U := ⟨_, rfl⟩
      rw [hUe] at i3 hU
      have hUH : Hid (uni ps qs = U) := hUe
      clear hUe hI i1 i2 htk
      obtain ⟨wA, hwA⟩ : ∃ x, x = wr := ⟨_, rfl⟩
      subst hwA
      have hO := OwnC.nil wA
      go_wp2_with fail
      go_loopw [7, 8] (fun t7 t8 wr => ∃ j : Nat, j ≤ m ∧ t8 = .int .i64 (j : Int) ∧ ∃ (a2 : Option Addr) (m2 c2 : Nat), t7 = .slice a2 m2 c2 ∧ OwnC wA ((keys (U.take j)).filterMap (chOf ps qs)) a2 m2 c2 wr) (fun _ t8 _ => m - (intOf t8).toNat)
      case atStart => exact ⟨0, Nat.zero_le _, rfl, _, _, _, rfl, hO⟩
      case round =>
        obtain ⟨j, hj, rfl, a2, m2, c2, rfl, hW⟩ := hrel
        have hbj := hbw.trans (hW.bel.mono hbw.size)
        have own := hW.own
        have hbs := hW.bel.size
        have hm2 : m2 ≤ 1000 := by have h1 := hW.len; have h2 := List.length_filterMap_le (chOf ps qs) (keys (U.take j)); rw [List.length_map, List.length_take] at h2; omega
        by_cases hlj : j < m
        · have z2 : decide ((j : Int) < (m : Int)) = true := by simp; omega
          have hy0 : (0 : Int) ≤ (j : Int) := Int.natCast_nonneg _
          have hy1 : (j : Int) < (m : Int) := by omega
          have hjr : Hid (j < U.length) := by show _ < _; rw [hU.out]; exact hlj
          obtain ⟨b1, off1, rfl, hbl1, hc⟩ := (i3.below hW.bel).at_ (by rw [hU.out]; omega)
          obtain ⟨hc1, hc2⟩ := hc j hjr.out
          have hft : Hid ((keys (U.take (j + 1))).filterMap (chOf ps qs) = (keys (U.take j)).filterMap (chOf ps qs) ++ (match chOf ps qs (U.getD j noPair).1 with | some y => [y] | none => [])) := by
            show _ = _
            have := filterMap_take (chOf ps qs) (keys U) j (by rw [List.length_map]; exact hjr.out) _ (keys_get U j hjr.out)
            have e1 : ∀ i, keys (U.take i) = (keys U).take i := fun i => List.map_take ..
            rw [e1, e1]
            exact this
          have HP1 := fun w' hb => HGp.out (U.getD j noPair).1 w' hb
          have HQ1 := fun w' hb => HGq.out (U.getD j noPair).1 w' hb
          have hco : chOf ps qs (U.getD j noPair).1 = if (getP ps (U.getD j noPair).1).2 ≠ (getP qs (U.getD j noPair).1).2 ∨ (getP ps (U.getD j noPair).1).1 ≠ (getP qs (U.getD j noPair).1).1 then some ((U.getD j noPair).1, (getP ps (U.getD j noPair).1).2, (getP ps (U.getD j noPair).1).1, (getP qs (U.getD j noPair).1).2, (getP qs (U.getD j noPair).1).1) else none := rfl
          rw [hco] at hft
          clear hco
          generalize (U.getD j noPair).1 = uk at *
          generalize getP ps uk = gp at *
          generalize getP qs uk = gq at *
          obtain ⟨old, had⟩ := gp
          obtain ⟨now, has⟩ := gq
          simp only at HP1 HQ1 hft
          have HC1 : Hid (∀ W, Below wr.heap.size wr W → W.cell? ⟨b1, off1 + j * 2, none⟩ = some (.string uk)) := fun W hW' => (hW'.cell (p := ⟨b1, off1 + j * 2, none⟩) hbl1).trans hc1
          have hdec : (had ≠ has ∨ old ≠ now) ∨ (had = has ∧ old = now) := by
            by_cases e1 : had = has
            · by_cases e2 : old = now
              · exact .inr ⟨e1, e2⟩
              · exact .inl (.inr e2)
            · exact .inl (.inl e1)
          go_upto_region 11 with (first | (go_at_call 136; refine (HP1 _ hbj).mono ?_; rintro e w4 ⟨rfl, hb4⟩; have hd1 := HC1.out _ hb4))
          have hbj4 := hbj.trans (hb4.mono hbj.size)
          go_upto_region 12 with (first | (go_at_call 136; refine (HQ1 _ hbj4).mono ?_; rintro e w5 ⟨rfl, hb5⟩; have hd2 := HC1.out _ (hb4.trans (hb5.mono hb4.size))))
          have hb45 := hb4.trans (hb5.mono hb4.size)
          have hW5 := hW.below hb45
          have own5 := hW5.own
          have hbs5 := hW5.bel.size
          clear own hbs HC1 hb4 hb5 hd1 HP1 HQ1
          clear hdec
          cases had with
          | true =>
            cases has with
            | true =>
              by_cases e2 : old = now
              · rw [if_neg (by simp [e2])] at hft
                have z4 : (old.toList == now.toList) = true := by rw [ba_eq, decide_eq_true e2]
                clear e2
                go_wp2_with fail
                go_roundw
                case rel => exact ⟨j + 1, hlj, by go_num, _, _, _, rfl, by rw [hft.out, List.append_nil]; exact hW5⟩
                case measure => simp [intOf]; omega
              · rw [if_pos (.inr e2)] at hft
                have z4 : (old.toList == now.toList) = false := by rw [ba_eq, decide_eq_false e2]
                clear e2
                go_wp2_with (at_builtin; refine wpList_append_lies _ rfl (.tmp 62) (.tmp 73) 55 rfl wA.heap.size 115 i0 (.agg #[.string ⟨#[]⟩, .bool false, .string ⟨#[]⟩, .bool false, .string ⟨#[]⟩]) 5 64 Tryz.underlying55 hi0 hz0 hz1 hz2 rfl (by decide) (.slice a2 m2 c2) m2 (flatC ((keys (U.take j)).filterMap (chOf ps qs))) rfl (own5.alloc _) ⟨w5.heap.size, 0, none⟩ 1 1 [.string uk, .bool true, .string old, .bool true, .string now] rfl rfl (World.news_of_block (heap_alloc_new w5 _)) (by simp [Value.oneCell']) (by decide) (by unfold maxLen; omega) (by omega) (by simp; omega) (w5.heap.size + 1) (by simp) ?_; intro g6 c6 w6 hown6 hgrow6 hat6 hlt6)
                go_roundw
                case rel => exact ⟨j + 1, hlj, by go_num, _, _, _, rfl, by rw [hft.out]; exact hW5.more (y := (uk, true, old, true, now)) hown6 hgrow6 rfl⟩
                case measure => simp [intOf]; omega
            | false =>
              rw [if_pos (.inl (by decide))] at hft
              go_wp2_with (at_builtin; refine wpList_append_lies _ rfl (.tmp 62) (.tmp 73) 55 rfl wA.heap.size 115 i0 (.agg #[.string ⟨#[]⟩, .bool false, .string ⟨#[]⟩, .bool false, .string ⟨#[]⟩]) 5 64 Tryz.underlying55 hi0 hz0 hz1 hz2 rfl (by decide) (.slice a2 m2 c2) m2 (flatC ((keys (U.take j)).filterMap (chOf ps qs))) rfl (own5.alloc _) ⟨w5.heap.size, 0, none⟩ 1 1 [.string uk, .bool true, .string old, .bool false, .string now] rfl rfl (World.news_of_block (heap_alloc_new w5 _)) (by simp [Value.oneCell']) (by decide) (by unfold maxLen; omega) (by omega) (by simp; omega) (w5.heap.size + 1) (by simp) ?_; intro g6 c6 w6 hown6 hgrow6 hat6 hlt6)
              go_roundw
              case rel => exact ⟨j + 1, hlj, by go_num, _, _, _, rfl, by rw [hft.out]; exact hW5.more (y := (uk, true, old, false, now)) hown6 hgrow6 rfl⟩
              case measure => simp [intOf]; omega
          | false =>
            cases has with
            | true =>
              rw [if_pos (.inl (by decide))] at hft
              go_wp2_with (at_builtin; refine wpList_append_lies _ rfl (.tmp 62) (.tmp 73) 55 rfl wA.heap.size 115 i0 (.agg #[.string ⟨#[]⟩, .bool false, .string ⟨#[]⟩, .bool false, .string ⟨#[]⟩]) 5 64 Tryz.underlying55 hi0 hz0 hz1 hz2 rfl (by decide) (.slice a2 m2 c2) m2 (flatC ((keys (U.take j)).filterMap (chOf ps qs))) rfl (own5.alloc _) ⟨w5.heap.size, 0, none⟩ 1 1 [.string uk, .bool false, .string old, .bool true, .string now] rfl rfl (World.news_of_block (heap_alloc_new w5 _)) (by simp [Value.oneCell']) (by decide) (by unfold maxLen; omega) (by omega) (by simp; omega) (w5.heap.size + 1) (by simp) ?_; intro g6 c6 w6 hown6 hgrow6 hat6 hlt6)
              go_roundw
              case rel => exact ⟨j + 1, hlj, by go_num, _, _, _, rfl, by rw [hft.out]; exact hW5.more (y := (uk, false, old, true, now)) hown6 hgrow6 rfl⟩
              case measure => simp [intOf]; omega
            | false =>
              by_cases e2 : old = now
              · rw [if_neg (by simp [e2])] at hft
                have z4 : (old.toList == now.toList) = true := by rw [ba_eq, decide_eq_true e2]
                clear e2
                go_wp2_with fail
                go_roundw
                case rel => exact ⟨j + 1, hlj, by go_num, _, _, _, rfl, by rw [hft.out, List.append_nil]; exact hW5⟩
                case measure => simp [intOf]; omega
              · rw [if_pos (.inr e2)] at hft
                have z4 : (old.toList == now.toList) = false := by rw [ba_eq, decide_eq_false e2]
                clear e2
                go_wp2_with (at_builtin; refine wpList_append_lies _ rfl (.tmp 62) (.tmp 73) 55 rfl wA.heap.size 115 i0 (.agg #[.string ⟨#[]⟩, .bool false, .string ⟨#[]⟩, .bool false, .string ⟨#[]⟩]) 5 64 Tryz.underlying55 hi0 hz0 hz1 hz2 rfl (by decide) (.slice a2 m2 c2) m2 (flatC ((keys (U.take j)).filterMap (chOf ps qs))) rfl (own5.alloc _) ⟨w5.heap.size, 0, none⟩ 1 1 [.string uk, .bool false, .string old, .bool false, .string now] rfl rfl (World.news_of_block (heap_alloc_new w5 _)) (by simp [Value.oneCell']) (by decide) (by unfold maxLen; omega) (by omega) (by simp; omega) (w5.heap.size + 1) (by simp) ?_; intro g6 c6 w6 hown6 hgrow6 hat6 hlt6)
                go_roundw
                case rel => exact ⟨j + 1, hlj, by go_num, _, _, _, rfl, by rw [hft.out]; exact hW5.more (y := (uk, false, old, false, now)) hown6 hgrow6 rfl⟩
                case measure => simp [intOf]; omega
        · obtain rfl : j = m := by omega
          have z2 : decide ((j : Int) < (j : Int)) = false := by simp
          have htU : U.take j = U := List.take_of_length_le (by rw [hU.out]; exact Nat.le_refl _)
          rw [htU] at hW
          have HF : Hid (ChAt ((keys (uni ps qs)).filterMap (chOf ps qs)) w (.returned (.slice a2 m2 c2)) wr) := by
            rw [hUH.out]
            have hl := hW.len
            subst hl
            exact ⟨_, _, rfl, hW.up hbw⟩
          clear hW own htU
          go_wp2_with fail
          go_ret
          exact HF.out
end Go.Proofs.YtmoajibmbppkjaeGreatDoor
