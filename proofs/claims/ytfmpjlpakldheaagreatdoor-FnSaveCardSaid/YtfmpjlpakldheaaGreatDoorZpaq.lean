import Derived.Test.YtfmpjlpakldheaaGreatDoorZpap
import Derived.Test.YtfmpjlpakldheaaGreatDoorZpao
import Derived.Deep.QuietTactic
import Derived.BigQuiet
set_option maxRecDepth 100000
set_option maxHeartbeats 400000
namespace Go.Proofs.YtfmpjlpakldheaaGreatDoor
open Tryz
open Go.RowKit Go.Proofs.Sha
def KeysUp : List ByteArray -> Prop
 | [] => True
 | k :: ks => (∀ x ∈ ks, lessB k x = true) /\ KeysUp ks
theorem bl_irr (a : List UInt8) : Op.bytesLess a a = false := by
 induction a with
 | nil => rfl
 | cons x y ih => rw [Op.bytesLess]; simp [ih]
theorem bl_tr : ∀ (a b c : List UInt8), Op.bytesLess a b = true -> Op.bytesLess b c = true -> Op.bytesLess a c = true
 | [], [], _, h, _ => by simp [Op.bytesLess] at h
 | [], _ :: _, [], _, k => by simp [Op.bytesLess] at k
 | [], _ :: _, _ :: _, _, _ => by simp [Op.bytesLess]
 | _ :: _, [], _, h, _ => by simp [Op.bytesLess] at h
 | _ :: _, _ :: _, [], _, k => by simp [Op.bytesLess] at k
 | x :: xs, y :: ys, z :: zs, h, k => by
  rw [Op.bytesLess] at h k ⊢
  simp only [Bool.or_eq_true, Bool.and_eq_true, decide_eq_true_eq, beq_iff_eq] at h k ⊢
  rcases h with h | ⟨rfl, h⟩
  · rcases k with k | ⟨rfl, k⟩
    · exact .inl (by rw [UInt8.lt_iff_toNat_lt] at *; omega)
    · exact .inl h
  · rcases k with k | ⟨rfl, k⟩
    · exact .inl k
    · exact .inr ⟨rfl, bl_tr xs ys zs h k⟩
theorem lessB_irr (a : ByteArray) : lessB a a = false := bl_irr _
theorem lessB_tr {a b c : ByteArray} (h : lessB a b = true) (k : lessB b c = true) : lessB a c = true := bl_tr _ _ _ h k
theorem lessB_or (a b : ByteArray) (h : lessB a b = false) (hne : a ≠ b) : lessB b a = true := by
 rw [lessB_tri] at h
 rcases (Bool.or_eq_true _ _).mp (by cases hq : (lessB b a || (b.toList == a.toList)) with | true => rfl | false => rw [hq] at h; cases h) with h | h
 · exact h
 · have e : b.toList = a.toList := by simpa using h
   rw [ByteArray.toList_eq, ByteArray.toList_eq] at e
   exact absurd (ByteArray.ext (Array.toList_inj.1 e.symm)) hne
theorem KeysUp.one : ∀ {a b : List ByteArray}, KeysUp a -> KeysUp b -> (∀ x, x ∈ a ↔ x ∈ b) -> a = b
 | [], [], _, _, _ => rfl
 | [], y :: ys, _, _, h => absurd ((h y).2 (List.mem_cons_self)) (by simp)
 | x :: xs, [], _, _, h => absurd ((h x).1 (List.mem_cons_self)) (by simp)
 | x :: xs, y :: ys, ha, hb, h => by
  have e : x = y := by
   rcases List.mem_cons.1 ((h x).1 List.mem_cons_self) with h1 | h1
   · exact h1
   · rcases List.mem_cons.1 ((h y).2 List.mem_cons_self) with h2 | h2
     · exact h2.symm
     · have q1 := hb.1 x h1
       have q2 := ha.1 y h2
       have := lessB_tr q1 q2
       rw [lessB_irr] at this
       cases this
  subst e
  rw [KeysUp.one ha.2 hb.2 (fun z => ?_)]
  constructor
  · intro hz
    rcases List.mem_cons.1 ((h z).1 (List.mem_cons_of_mem _ hz)) with h1 | h1
    · subst h1
      have := ha.1 z hz
      rw [lessB_irr] at this
      cases this
    · exact h1
  · intro hz
    rcases List.mem_cons.1 ((h z).2 (List.mem_cons_of_mem _ hz)) with h1 | h1
    · subst h1
      have := hb.1 z hz
      rw [lessB_irr] at this
      cases this
    · exact h1
def wout (ps : List PairT) (k : ByteArray) : List PairT := ps.filter fun p => decide (p.1 ≠ k)
def ins (k v : ByteArray) : List PairT -> List PairT
 | [] => [(k, v)]
 | p :: ps => if lessB k p.1 = true then (k, v) :: p :: ps else p :: ins k v ps
def wth (ps : List PairT) (k v : ByteArray) : List PairT := ins k v (wout ps k)
abbrev keys (ps : List PairT) : List ByteArray := ps.map Prod.fst
theorem ku_wout {ps : List PairT} (h : KeysUp (keys ps)) (k : ByteArray) : KeysUp (keys (wout ps k)) := by
 induction ps with
 | nil => exact h
 | cons p ps ih =>
  unfold wout at ih ⊢
  rw [List.filter_cons]
  split
  · refine ⟨fun x hx => ?_, ih h.2⟩
    obtain ⟨y, hy, rfl⟩ := List.mem_map.1 hx
    exact h.1 _ (List.mem_map.2 ⟨y, (List.mem_filter.1 hy).1, rfl⟩)
  · exact ih h.2
theorem mem_wout {ps : List PairT} {k x : ByteArray} : x ∈ keys (wout ps k) ↔ x ∈ keys ps /\ x ≠ k := by
 unfold wout
 constructor
 · intro h
   obtain ⟨y, hy, rfl⟩ := List.mem_map.1 h
   obtain ⟨h1, h2⟩ := List.mem_filter.1 hy
   exact ⟨List.mem_map.2 ⟨y, h1, rfl⟩, by simpa using h2⟩
 · rintro ⟨h, hn⟩
   obtain ⟨y, hy, rfl⟩ := List.mem_map.1 h
   exact List.mem_map.2 ⟨y, List.mem_filter.2 ⟨hy, by simpa using hn⟩, rfl⟩
theorem mem_ins {k v x : ByteArray} : ∀ {ps : List PairT}, x ∈ keys (ins k v ps) ↔ x = k \/ x ∈ keys ps
 | [] => by simp [ins]
 | p :: ps => by
  rw [ins]
  split
  · simp
  · have ih := mem_ins (k := k) (v := v) (x := x) (ps := ps)
    simp only [keys, List.map_cons, List.mem_cons] at ih ⊢
    rw [ih]
    constructor
    · rintro (h | h | h)
      · exact .inr (.inl h)
      · exact .inl h
      · exact .inr (.inr h)
    · rintro (h | h | h)
      · exact .inr (.inl h)
      · exact .inl h
      · exact .inr (.inr h)
theorem ku_ins {k v : ByteArray} : ∀ {ps : List PairT}, KeysUp (keys ps) -> (∀ x ∈ keys ps, x ≠ k) -> KeysUp (keys (ins k v ps))
 | [], _, _ => ⟨fun _ h => by simp at h, trivial⟩
 | p :: ps, h, hn => by
  rw [ins]
  split
  · rename_i hl
    refine ⟨fun x hx => ?_, h⟩
    rcases List.mem_cons.1 hx with e | hx
    · rw [e]; exact hl
    · exact lessB_tr hl (h.1 x hx)
  · rename_i hl
    refine ⟨fun x hx => ?_, ku_ins h.2 (fun x hx => hn x (List.mem_cons_of_mem _ hx))⟩
    rcases mem_ins.1 hx with e | hx
    · rw [e]
      exact lessB_or _ _ (by simpa using hl) (fun e => hn p.1 List.mem_cons_self e.symm)
    · exact h.1 x hx
theorem ku_wth {ps : List PairT} (h : KeysUp (keys ps)) (k v : ByteArray) : KeysUp (keys (wth ps k v)) := ku_ins (ku_wout h k) (fun _ hx => (mem_wout.1 hx).2)
theorem mem_wth {ps : List PairT} {k v x : ByteArray} : x ∈ keys (wth ps k v) ↔ x = k \/ x ∈ keys ps := by
 unfold wth
 rw [mem_ins, mem_wout]
 constructor
 · rintro (h | h)
   · exact .inl h
   · exact .inr h.1
 · rintro (h | h)
   · exact .inl h
   · by_cases e : x = k
     · exact .inl e
     · exact .inr ⟨h, e⟩
abbrev ChT := ByteArray × Bool × ByteArray × Bool × ByteArray
def getP : List PairT -> ByteArray -> ByteArray × Bool
 | [], _ => (⟨#[]⟩, false)
 | p :: ps, k => if p.1 = k then (p.2, true) else getP ps k
def kU : List PairT -> List PairT -> List ByteArray
 | [], [] => []
 | p :: ps, [] => p.1 :: kU ps []
 | [], q :: qs => q.1 :: kU [] qs
 | p :: ps, q :: qs => if p.1 = q.1 then p.1 :: kU ps qs else if lessB p.1 q.1 = true then p.1 :: kU ps (q :: qs) else q.1 :: kU (p :: ps) qs
termination_by ps qs => ps.length + qs.length
theorem mem_kU (x : ByteArray) : ∀ (n : Nat) (ps qs : List PairT), ps.length + qs.length = n -> (x ∈ kU ps qs ↔ x ∈ keys ps \/ x ∈ keys qs) := by
 intro n
 induction n using Nat.strongRecOn with
 | ind n ih =>
  intro ps qs hn
  match ps, qs with
  | [], [] => rw [kU]; simp
  | p :: ps, [] =>
   rw [kU, List.mem_cons, ih _ (by simp at hn ⊢; omega) ps [] rfl]
   simp
  | [], q :: qs =>
   rw [kU, List.mem_cons, ih _ (by simp at hn ⊢; omega) [] qs rfl]
   simp
  | p :: ps, q :: qs =>
   rw [kU]
   split
   · rename_i e
     rw [List.mem_cons, ih _ (by simp at hn ⊢; omega) ps qs rfl]
     simp only [keys, List.map_cons, List.mem_cons]
     rw [e]
     constructor
     · rintro (h | h | h)
       · exact .inl (.inl h)
       · exact .inl (.inr h)
       · exact .inr (.inr h)
     · rintro ((h | h) | (h | h))
       · exact .inl h
       · exact .inr (.inl h)
       · exact .inl h
       · exact .inr (.inr h)
   · split
     · rw [List.mem_cons, ih _ (by simp at hn ⊢; omega) ps (q :: qs) rfl]
       simp only [keys, List.map_cons, List.mem_cons]
       constructor
       · rintro (h | h | h)
         · exact .inl (.inl h)
         · exact .inl (.inr h)
         · exact .inr h
       · rintro ((h | h) | h)
         · exact .inl h
         · exact .inr (.inl h)
         · exact .inr (.inr h)
     · rw [List.mem_cons, ih _ (by simp at hn ⊢; omega) (p :: ps) qs rfl]
       simp only [keys, List.map_cons, List.mem_cons]
       constructor
       · rintro (h | h | h)
         · exact .inr (.inl h)
         · exact .inl h
         · exact .inr (.inr h)
       · rintro (h | (h | h))
         · exact .inr (.inl h)
         · exact .inl h
         · exact .inr (.inr h)
theorem getP_none {ps : List PairT} {k : ByteArray} (h : k ∉ keys ps) : getP ps k = (⟨#[]⟩, false) := by
 induction ps with
 | nil => rfl
 | cons p ps ih =>
  simp only [keys, List.map_cons, List.mem_cons, not_or] at h
  rw [getP, if_neg (fun e => h.1 e.symm)]
  exact ih h.2
theorem getP_hit (p : PairT) (ps : List PairT) : getP (p :: ps) p.1 = (p.2, true) := by rw [getP, if_pos rfl]
theorem getP_skip {p : PairT} {ps : List PairT} {k : ByteArray} (h : p.1 ≠ k) : getP (p :: ps) k = getP ps k := by rw [getP, if_neg h]
theorem ne_of_less {a b : ByteArray} (h : lessB a b = true) : a ≠ b := fun e => by subst e; rw [lessB_irr] at h; cases h
theorem shigher_any (a b : ByteArray) (w : World) (ha : a.size <= 1048576) (hb : b.size <= 1048576) :
 Calls prog 96 #[.string a, .string b] w fun e w' => e = .returned (.bool (rk (sha a.data.toList) (sha b.data.toList) a.data.toList b.data.toList)) /\ Below w.heap.size w w' := by
 have hla : (sha a.data.toList).length = 32 := by unfold sha; rw [outTo_length]
 have hlb : (sha b.data.toList).length = 32 := by unfold sha; rw [outTo_length]
 have H1 := fun w' => spec_any a w' ha
 have H2 := fun w' => spec_any b w' hb
 have HR1 : Hid (sha a.data.toList = sha b.data.toList -> rk (sha a.data.toList) (sha b.data.toList) a.data.toList b.data.toList = Op.bytesLess a.data.toList b.data.toList) := fun h => if_pos h
 have HR2 : Hid (sha a.data.toList ≠ sha b.data.toList -> rk (sha a.data.toList) (sha b.data.toList) a.data.toList b.data.toList = Op.bytesLess (sha b.data.toList) (sha a.data.toList)) := fun h => if_neg h
 obtain ⟨X, hX⟩ : ∃ X, sha a.data.toList = X := ⟨_, rfl⟩
 obtain ⟨Y, hY⟩ : ∃ Y, sha b.data.toList = Y := ⟨_, rfl⟩
 rw [hX] at hla H1
 rw [hY] at hlb H2
 rw [hX, hY] at HR1 HR2
 rw [hX, hY]
 obtain ⟨SX, hSX⟩ : ∃ S : ByteArray, S = ⟨X.toArray⟩ := ⟨_, rfl⟩
 obtain ⟨SY, hSY⟩ : ∃ S : ByteArray, S = ⟨Y.toArray⟩ := ⟨_, rfl⟩
 have dX : SX.data.toList = X := by rw [hSX]
 have dY : SY.data.toList = Y := by rw [hSY]
 have zX : SX.size <= 1048576 := by rw [hSX]; show X.length <= _; omega
 have zY : SY.size <= 1048576 := by rw [hSY]; show Y.length <= _; omega
 rw [<- hSX] at H1
 rw [<- hSY] at H2
 have L1 := fun w' => less_any SY SX w' zY zX
 have L2 := fun w' => less_any a b w' ha hb
 rw [dX, dY] at L1
 have K1 : Hid (∀ w', Calls prog 59 #[.string a] w' fun e w'' => e = .returned (.string SX) /\ Below w'.heap.size w' w'') := H1
 have K2 : Hid (∀ w', Calls prog 59 #[.string b] w' fun e w'' => e = .returned (.string SY) /\ Below w'.heap.size w' w'') := H2
 have K3 : Hid (∀ w', Calls prog 95 #[.string SY, .string SX] w' fun e w'' => e = .returned (.bool (Op.bytesLess Y X)) /\ Below w'.heap.size w' w'') := L1
 have K4 : Hid (∀ w', Calls prog 95 #[.string a, .string b] w' fun e w'' => e = .returned (.bool (Op.bytesLess a.data.toList b.data.toList)) /\ Below w'.heap.size w' w'') := L2
 have tX : SX.toList = X := by rw [ByteArray.toList_eq, dX]
 have tY : SY.toList = Y := by rw [ByteArray.toList_eq, dY]
 have TXY : Hid (SX.toList = X /\ SY.toList = Y) := ⟨tX, tY⟩
 clear hX hY H1 H2 L1 L2 hSX hSY dX dY zX zY hla hlb tX tY
 by_cases hXY : X = Y
 · have c1 : (SX.toList == SY.toList) = true := by rw [TXY.out.1, TXY.out.2, hXY]; simp
   have HR := HR1.out hXY
   have HR' : Hid (rk X Y a.data.toList b.data.toList = Op.bytesLess a.data.toList b.data.toList) := HR
   clear HR HR1 HR2 hXY
   go_enter func96, ntmps96
   go_wp2_with fail
   refine (K1.out _).mono ?_
   rintro e w1 ⟨rfl, hb1⟩
   go_wp2_with fail
   refine (K2.out _).mono ?_
   rintro e w2 ⟨rfl, hb2⟩
   go_wp2_with fail
   refine (K4.out _).mono ?_
   rintro e w3 ⟨rfl, hb3⟩
   go_wp2
   go_ret
   exact ⟨by rw [HR'.out]; rfl, (hb1.trans (hb2.mono hb1.size)).trans (hb3.mono (Nat.le_trans hb1.size hb2.size))⟩
 · have c1 : (SX.toList == SY.toList) = false := by rw [TXY.out.1, TXY.out.2]; exact beq_eq_false_iff_ne.2 hXY
   have HR' : Hid (rk X Y a.data.toList b.data.toList = Op.bytesLess Y X) := HR2.out hXY
   clear HR1 HR2 hXY
   go_enter func96, ntmps96
   go_wp2_with fail
   refine (K1.out _).mono ?_
   rintro e w1 ⟨rfl, hb1⟩
   go_wp2_with fail
   refine (K2.out _).mono ?_
   rintro e w2 ⟨rfl, hb2⟩
   go_wp2_with fail
   refine (K3.out _).mono ?_
   rintro e w3 ⟨rfl, hb3⟩
   go_wp2
   go_ret
   exact ⟨by rw [HR'.out]; rfl, (hb1.trans (hb2.mono hb1.size)).trans (hb3.mono (Nat.le_trans hb1.size hb2.size))⟩
theorem pairOk_any (k v : ByteArray) (w : World) (hk : k.size <= 1048576) (hv : v.size <= 1048576) : Calls prog 90 #[.string k, .string v] w fun e w' => e = .returned (.bool (okKey k && okVal v)) /\ w = w' := by
 have hr : okVal v = decide ((v.size : Int) <= 2000) := by
  unfold okVal
  by_cases c2 : v.size <= 2000
  · rw [decide_eq_true (by omega), decide_eq_true (by omega)]
  · rw [decide_eq_false (by omega), decide_eq_false (by omega)]
 by_cases c1 : 1 <= k.size
 · by_cases c2 : k.size <= 256
   · have hq : okKey k = true := by unfold okKey; rw [decide_eq_true (by omega)]
     rw [hq, hr, Bool.true_and]
     have z1 : decide ((k.size : Int) ≥ 1) = true := by rw [decide_eq_true_eq]; omega
     have z2 : decide ((1 : Int) <= (k.size : Int)) = true := by rw [decide_eq_true_eq]; omega
     have z3 : decide ((k.size : Int) <= 256) = true := by rw [decide_eq_true_eq]; omega
     have z4 : 0 < k.size := by omega
     have z5 : decide (1 <= k.size) = true := decide_eq_true c1
     clear hr hq
     go_enter func90, ntmps90
     go_wp2_with fail
     go_ret
     exact ⟨rfl, rfl⟩
   · have hq : okKey k = false := by unfold okKey; rw [decide_eq_false (by omega)]
     rw [hq, Bool.false_and]
     have z1 : decide ((k.size : Int) ≥ 1) = true := by rw [decide_eq_true_eq]; omega
     have z2 : decide ((1 : Int) <= (k.size : Int)) = true := by rw [decide_eq_true_eq]; omega
     have z3 : decide ((k.size : Int) <= 256) = false := by rw [decide_eq_false_iff_not]; omega
     have z4 : 0 < k.size := by omega
     have z5 : decide (1 <= k.size) = true := decide_eq_true c1
     clear hr hq
     go_enter func90, ntmps90
     go_wp2_with fail
     go_ret
     exact ⟨rfl, rfl⟩
 · have hq : okKey k = false := by unfold okKey; rw [decide_eq_false (by omega)]
   rw [hq, Bool.false_and]
   have z1 : decide ((k.size : Int) ≥ 1) = false := by rw [decide_eq_false_iff_not]; omega
   have z2 : decide ((1 : Int) <= (k.size : Int)) = false := by rw [decide_eq_false_iff_not]; omega
   have z0 : k.size = 0 := by omega
   clear hr hq
   go_enter func90, ntmps90
   go_wp2_with fail
   go_ret
   exact ⟨rfl, rfl⟩
theorem drew1 {w wr : World} (h : ∃ m, wr = w.drewN m) : ∃ m, wr.drew = w.drewN m := by
 obtain ⟨m, rfl⟩ := h
 exact ⟨m + 1, by rw [<- World.drewN_drewN]; rfl⟩
theorem less_q (p q : ByteArray) (w : World) (hp : p.size <= 1048576) (hq : q.size <= 1048576) :
 Calls prog 95 #[.string p, .string q] w fun e w' => e = .returned (.bool (Op.bytesLess p.data.toList q.data.toList)) /\ (∃ m, w' = w.drewN m) := by
 have hpl : p.data.toList.length = p.size := rfl
 have hql : q.data.toList.length = q.size := rfl
 go_enter func95, ntmps95
 go_wp2_with fail
 go_loopw [5] (fun t wr => ∃ k : Nat, k <= p.size /\ k <= q.size /\ t = .int .i64 (k : Int) /\ Hid (Op.bytesLess p.data.toList q.data.toList = Op.bytesLess (p.data.toList.drop k) (q.data.toList.drop k)) /\ ∃ m, wr = w.drewN m) (fun t _ => p.size - (intOf t).toNat)
 case atStart => exact ⟨0, by omega, by omega, rfl, rfl, 0, rfl⟩
 case round =>
  obtain ⟨k, hk1, hk2, rfl, HL, hb⟩ := hrel
  by_cases h1 : k < p.size
  · by_cases h2 : k < q.size
    · have z1 : (0 : Int) <= (k : Int) := by omega
      have z2 : (k : Int) < (p.size : Int) := by omega
      have z3 : (k : Int) < (q.size : Int) := by omega
      go_wp2_with fail
      go_region
      rw [bget p k h1, bget q k h2]
      have HE := less_eq p.data.toList q.data.toList k h1 h2
      have HN := less_ne p.data.toList q.data.toList k h1 h2
      obtain ⟨x, hx⟩ : ∃ x, p.data.toList.getD k 0 = x := ⟨_, rfl⟩
      obtain ⟨y, hy⟩ : ∃ y, q.data.toList.getD k 0 = y := ⟨_, rfl⟩
      rw [hx, hy] at HE HN
      rw [hx, hy]
      have HXY : Hid (p.data.toList.getD k 0 = x /\ q.data.toList.getD k 0 = y) := ⟨hx, hy⟩
      clear hx hy
      by_cases hxy : x = y
      · have c0 : ((x.toNat : Int) != (y.toNat : Int)) = false := by rw [hxy]; simp
        have HE' : Hid (Op.bytesLess p.data.toList q.data.toList = Op.bytesLess (p.data.toList.drop (k + 1)) (q.data.toList.drop (k + 1))) := HL.out.trans (HE hxy)
        clear HE HN hxy
        go_wp2_with fail
        go_roundw
        case rel => exact ⟨k + 1, by omega, by omega, by go_num, HE', drew1 hb⟩
        case measure => simp [intOf]; omega
      · have c0 : ((x.toNat : Int) != (y.toNat : Int)) = true := by
         rw [bne_iff_ne]; exact fun h => hxy (UInt8.toNat_inj.1 (by omega))
        have HN' : Hid (Op.bytesLess p.data.toList q.data.toList = decide (x.toNat < y.toNat)) := (HL.out.trans (HN hxy)).trans (by simp)
        clear HE HN hxy
        go_wp2_with fail
        go_region
        rw [bget p k h1, bget q k h2, HXY.out.1, HXY.out.2]
        go_wp2
        go_ret
        exact ⟨by rw [HN'.out]; rfl, drew1 (drew1 hb)⟩
    · have HN' : Hid (Op.bytesLess p.data.toList q.data.toList = decide (p.size < q.size)) := (HL.out.trans (less_end p.data.toList q.data.toList k (.inr (by omega)) (by omega) (by omega))).trans (by simp)
      go_wp2
      go_ret
      exact ⟨by rw [HN'.out]; rfl, hb⟩
  · have HN' : Hid (Op.bytesLess p.data.toList q.data.toList = decide (p.size < q.size)) := (HL.out.trans (less_end p.data.toList q.data.toList k (.inl (by omega)) (by omega) (by omega))).trans (by simp)
    go_wp2
    go_ret
    exact ⟨by rw [HN'.out]; rfl, hb⟩
theorem pairOk_q (k v : ByteArray) (w : World) (hk : k.size <= 1048576) (hv : v.size <= 1048576) : Calls prog 90 #[.string k, .string v] w fun e w' => e = .returned (.bool (okKey k && okVal v)) /\ w' = w :=
 (pairOk_any k v w hk hv).mono fun _ _ ⟨he, hw⟩ => ⟨he, hw.symm⟩
end Go.Proofs.YtfmpjlpakldheaaGreatDoor
