import Derived.Test.YthklibioolnggaaGreatDoorAj
namespace Go.Proofs.YthklibioolnggaaGreatDoor
open Go.RowKit Go.Proofs.Sha

def nameL : List ByteArray := ⟨#[]⟩ :: kindTab.map fun p => bs p.1
def shapeL : List ByteArray := ⟨#[]⟩ :: kindTab.map fun p => bs p.2
def kindS (s : ByteArray) : Nat × ByteArray := match kindOf s.data.toList with
  | none => (0, ⟨#[]⟩)
  | some k => (k + 1, bs (shapeOf k))
theorem fourteen {P : Nat → Prop} (h : P 1 ∧ P 2 ∧ P 3 ∧ P 4 ∧ P 5 ∧ P 6 ∧ P 7 ∧ P 8 ∧ P 9 ∧ P 10 ∧ P 11 ∧ P 12 ∧ P 13) (i : Nat) (h1 : 1 ≤ i) (h2 : i < 14) : P i := by
  obtain ⟨a1, a2, a3, a4, a5, a6, a7, a8, a9, a10, a11, a12, a13⟩ := h
  rcases (show i = 1 ∨ i = 2 ∨ i = 3 ∨ i = 4 ∨ i = 5 ∨ i = 6 ∨ i = 7 ∨ i = 8 ∨ i = 9 ∨ i = 10 ∨ i = 11 ∨ i = 12 ∨ i = 13 by omega) with rfl | rfl | rfl | rfl | rfl | rfl | rfl | rfl | rfl | rfl | rfl | rfl | rfl <;> assumption
theorem kind_hit (i : Nat) (h1 : 1 ≤ i) (h2 : i < 14) : kindS (nameL.getD i ⟨#[]⟩) = (i, shapeL.getD i ⟨#[]⟩) :=
  fourteen (P := fun i => kindS (nameL.getD i ⟨#[]⟩) = (i, shapeL.getD i ⟨#[]⟩)) ⟨rfl, rfl, rfl, rfl, rfl, rfl, rfl, rfl, rfl, rfl, rfl, rfl, rfl⟩ i h1 h2
theorem kind_miss (s : ByteArray) (h : ∀ j, 1 ≤ j → j < 14 → nameL.getD j ⟨#[]⟩ ≠ s) : kindS s = (0, ⟨#[]⟩) := by
  have : kindOf s.data.toList = none := by
    rw [kindOf, List.findIdx?_eq_none_iff]
    intro p hp
    obtain ⟨j, hj, rfl⟩ := List.getElem_of_mem hp
    have := h (j + 1) (by omega) (by have : kindTab.length = 13 := rfl; omega)
    rw [beq_eq_false_iff_ne]
    intro e
    apply this
    rw [nameL, List.getD_eq_getElem?_getD, List.getElem?_cons_succ, List.getElem?_map, List.getElem?_eq_getElem hj]
    apply bs_eq.1
    show (bs kindTab[j].1).data.toList = _
    rw [← e]; simp [bs]
  rw [kindS, this]

set_option maxRecDepth 100000 in
set_option maxHeartbeats 1000000 in
theorem lkind_any (s : ByteArray) (w : World) :
    Calls Tryz.prog 21 #[.string s] w fun e w' => e = .returned (.tuple #[.int .i64 ((kindS s).1 : Int), .string (kindS s).2]) ∧ Below w.heap.size w w' := by
  obtain ⟨r1, hr1⟩ : ∃ r1, (kindS s).1 = r1 := ⟨_, rfl⟩
  obtain ⟨r2, hr2⟩ : ∃ r2, (kindS s).2 = r2 := ⟨_, rfl⟩
  have hr : Hid (kindS s = (r1, r2)) := by show _ = _; rw [← hr1, ← hr2]
  rw [hr1, hr2]
  clear hr1 hr2
  have hb : Below w.heap.size w ((w.alloc (.cells (nameL.map Value.string).toArray 9)).alloc (.cells (shapeL.map Value.string).toArray 9)) := ((Below.refl _ _).alloc (Nat.le_refl _) _).alloc (by simp) _
  have hn : TArg (some ⟨w.heap.size, 0, none⟩) nameL ((w.alloc (.cells (nameL.map Value.string).toArray 9)).alloc (.cells (shapeL.map Value.string).toArray 9)) := (targ_alloc w nameL).below ((Below.refl _ _).alloc (Nat.le_refl _) _)
  have hsh : TArg (some ⟨w.heap.size + 1, 0, none⟩) shapeL ((w.alloc (.cells (nameL.map Value.string).toArray 9)).alloc (.cells (shapeL.map Value.string).toArray 9)) := by
    have := targ_alloc (w.alloc (.cells (nameL.map Value.string).toArray 9)) shapeL
    rw [World.size_alloc] at this
    exact this
  have eN : (nameL.map Value.string).toArray = #[.string ⟨#[]⟩, .string ⟨#[111, 112, 101, 110]⟩, .string ⟨#[112, 117, 116]⟩, .string ⟨#[100, 101, 108]⟩, .string ⟨#[103, 101, 116]⟩, .string ⟨#[114, 97, 110, 103, 101]⟩, .string ⟨#[99, 111, 109, 109, 105, 116]⟩, .string ⟨#[99, 104, 101, 99, 107, 111, 117, 116]⟩, .string ⟨#[118, 101, 114, 115, 105, 111, 110, 115]⟩, .string ⟨#[112, 114, 111, 118, 101]⟩, .string ⟨#[100, 105, 102, 102]⟩, .string ⟨#[99, 108, 111, 115, 101]⟩, .string ⟨#[99, 114, 97, 115, 104]⟩, .string ⟨#[102, 117, 101, 108]⟩] := rfl
  have eS : (shapeL.map Value.string).toArray = #[.string ⟨#[]⟩, .string ⟨#[]⟩, .string ⟨#[119, 119]⟩, .string ⟨#[119]⟩, .string ⟨#[119]⟩, .string ⟨#[119, 119]⟩, .string ⟨#[]⟩, .string ⟨#[110]⟩, .string ⟨#[]⟩, .string ⟨#[110, 119, 119]⟩, .string ⟨#[110, 110]⟩, .string ⟨#[]⟩, .string ⟨#[42]⟩, .string ⟨#[110]⟩] := rfl
  rw [eN, eS] at hb hn hsh
  clear eN eS
  go_enter Tryz.func21, Tryz.ntmps21
  go_wp2_with fail
  generalize (w.alloc (.cells #[.string ⟨#[]⟩, .string ⟨#[111, 112, 101, 110]⟩, .string ⟨#[112, 117, 116]⟩, .string ⟨#[100, 101, 108]⟩, .string ⟨#[103, 101, 116]⟩, .string ⟨#[114, 97, 110, 103, 101]⟩, .string ⟨#[99, 111, 109, 109, 105, 116]⟩, .string ⟨#[99, 104, 101, 99, 107, 111, 117, 116]⟩, .string ⟨#[118, 101, 114, 115, 105, 111, 110, 115]⟩, .string ⟨#[112, 114, 111, 118, 101]⟩, .string ⟨#[100, 105, 102, 102]⟩, .string ⟨#[99, 108, 111, 115, 101]⟩, .string ⟨#[99, 114, 97, 115, 104]⟩, .string ⟨#[102, 117, 101, 108]⟩] 9)).alloc (.cells #[.string ⟨#[]⟩, .string ⟨#[]⟩, .string ⟨#[119, 119]⟩, .string ⟨#[119]⟩, .string ⟨#[119]⟩, .string ⟨#[119, 119]⟩, .string ⟨#[]⟩, .string ⟨#[110]⟩, .string ⟨#[]⟩, .string ⟨#[110, 119, 119]⟩, .string ⟨#[110, 110]⟩, .string ⟨#[]⟩, .string ⟨#[42]⟩, .string ⟨#[110]⟩] 9) = W at hb hn hsh ⊢
  obtain ⟨b1, off1, h1, hl1, hc1⟩ := hn.at_ (by decide)
  obtain ⟨b2, off2, h2, hl2, hc2⟩ := hsh.at_ (by decide)
  injection h1 with h1; injection h1 with h1 h1' ; subst h1 h1'
  injection h2 with h2; injection h2 with h2 h2' ; subst h2 h2'
  simp only [Nat.zero_add] at hc1 hc2
  obtain ⟨g, hg⟩ : ∃ g, w.heap.size = g := ⟨_, rfl⟩
  rw [hg] at hc1 hc2 hl1 hl2
  try rw [hg]
  clear hn hsh hg
  have hln : nameL.length = 14 := rfl
  have hls : shapeL.length = 14 := rfl
  rw [hln] at hc1
  rw [hls] at hc2
  have HC1 : Hid _ := hc1
  have HC2 : Hid _ := hc2
  clear hc1 hc2
  go_loopw [6] (fun t wr => ∃ i : Nat, 1 ≤ i ∧ i ≤ 14 ∧ t = .int .i64 (i : Int) ∧ Hid (∀ j, 1 ≤ j → j < i → nameL.getD j ⟨#[]⟩ ≠ s) ∧ wr = W) (fun t _ => 14 - (intOf t).toNat)
  case atStart => exact ⟨1, by omega, by omega, rfl, fun j h1 h2 => absurd h2 (by omega), rfl⟩
  case round =>
    obtain ⟨i, h1, h2, rfl, HN, rfl⟩ := hrel
    by_cases hlt : i < 14
    · have z1 : (0 : Int) ≤ (i : Int) := by omega
      have z2 : (i : Int) < 14 := by omega
      have d1 := HC1.out i hlt
      have d2 := HC2.out i hlt
      have HK := kind_hit i h1 hlt
      obtain ⟨x, hx⟩ : ∃ x, nameL.getD i ⟨#[]⟩ = x := ⟨_, rfl⟩
      obtain ⟨y, hy⟩ : ∃ y, shapeL.getD i ⟨#[]⟩ = y := ⟨_, rfl⟩
      rw [hx] at d1 HK
      rw [hy] at d2 HK
      clear hy
      by_cases he : x = s
      · subst he
        have e1 : Hid (i = r1 ∧ y = r2) := by
          have := HK.symm.trans hr.out
          rw [Prod.mk.injEq] at this
          exact this
        clear hr HK hx HN HC1 HC2
        go_wp2_with fail
        go_region
        go_wp2_with fail
        go_ret2
        exact ⟨by rw [← e1.out.1, ← e1.out.2]; rfl, hb.drew⟩
      · have e0 : (x.toList == s.toList) = false := by rw [tl_eq, tl_eq, beq_eq_false_iff_ne]; exact fun h => he (bs_eq.1 h)
        have HN' : Hid (∀ j, 1 ≤ j → j < i + 1 → nameL.getD j ⟨#[]⟩ ≠ s) := fun j h1 h2 => by
          by_cases hj : j < i
          · exact HN.out j h1 hj
          · obtain rfl : j = i := by omega
            rw [hx]; exact he
        clear hr HK hx HN d2 he
        go_wp2_with fail
        go_roundw
        case rel => exact ⟨i + 1, by omega, by omega, by go_num, HN', by first | rfl | trivial⟩
        case measure => simp [intOf]; omega
    · have hi : i = 14 := by omega
      subst hi
      have e1 : Hid (0 = r1 ∧ (⟨#[]⟩ : ByteArray) = r2) := by
        have := (kind_miss s HN.out).symm.trans hr.out
        rw [Prod.mk.injEq] at this
        exact this
      clear hr HN HC1 HC2 hlt
      go_wp2_with fail
      go_ret2
      exact ⟨by rw [← e1.out.1, ← e1.out.2]; rfl, hb⟩
end Go.Proofs.YthklibioolnggaaGreatDoor
