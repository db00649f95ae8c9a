import Derived.Test.YthklibioolnggaaGreatDoorBc
namespace Go.Proofs.YthklibioolnggaaGreatDoor
open Go.RowKit Go.Proofs.Sha

theorem lineOp_picks {x : ByteArray} {o : OpT} (h : lineOp x = some o) : o.picks.length ≤ x.size + 1 := by
  have hc := (cutB_size 32 x).1
  unfold lineOp at h
  cases hk : kindOf ((cutB 32 x).getD 0 ⟨#[]⟩).data.toList with
  | none => rw [hk] at h; cases h
  | some k =>
    rw [hk] at h
    simp only at h
    split at h
    · injection h with h
      subst h
      unfold mkOp
      split
      · have h1 := (lens_le (sh := shapeAt k (cutB 32 x).tail.length) (ts := (cutB 32 x).tail)).2
        have h2 : (cutB 32 x).tail.length = (cutB 32 x).length - 1 := List.length_tail
        show (numsT (shapeAt k (cutB 32 x).tail.length) (cutB 32 x).tail).length ≤ _
        omega
      · exact Nat.zero_le _
    · cases h
theorem opsR_facts (B : Nat) : ∀ (L : List ByteArray) (j : Nat) (acc : List OpT), (∀ x ∈ L, x.size ≤ B) → (∀ o ∈ acc, o.picks.length ≤ B + 1) → (opsR j L acc).2.length ≤ acc.length + L.length ∧ ∀ o ∈ (opsR j L acc).2, o.picks.length ≤ B + 1
  | [], j, acc, _, h2 => ⟨by simp [opsR], by simpa [opsR] using h2⟩
  | l :: r, j, acc, h1, h2 => by
    rw [opsR]
    split
    · exact ⟨Nat.zero_le _, fun o ho => absurd ho (by simp)⟩
    · cases hl : lineOp l with
      | none => exact ⟨Nat.zero_le _, fun o ho => absurd ho (by simp)⟩
      | some o =>
        have hp := lineOp_picks hl
        have hB := h1 l (List.mem_cons_self ..)
        have ih := opsR_facts B r (j + 1) (acc ++ [o]) (fun x hx => h1 x (List.mem_cons_of_mem _ hx)) (fun x hx => by
          rcases List.mem_append.1 hx with hx | hx
          · exact h2 x hx
          · obtain rfl : x = o := by simpa using hx
            omega)
        refine ⟨?_, ih.2⟩
        have := ih.1
        simp only [List.length_append, List.length_cons, List.length_nil] at this ⊢
        omega
theorem parseR_facts (t : ByteArray) : (parseR t).ops.length ≤ 60002 ∧ ∀ o ∈ (parseR t).ops, o.picks.length ≤ 60002 := by
  have hb : ∀ c : Int, (badS c).ops.length ≤ 60002 ∧ ∀ o ∈ (badS c).ops, o.picks.length ≤ 60002 := fun c => ⟨Nat.zero_le _, fun o ho => absurd ho (by simp [badS])⟩
  unfold parseR
  split
  · exact hb 1
  · rename_i h6
    have hf := linesV_facts t
    have ho := opsR_facts 60000 ((linesV t).drop 2) 0 [] (fun x hx => Nat.le_trans (hf.2 x (List.mem_of_mem_drop hx)) (by omega)) (fun o ho => absurd ho (by simp))
    split
    · exact hb 2
    · split
      · exact hb 3
      · split
        · refine ⟨?_, fun o h => Nat.le_succ_of_le (ho.2 o h)⟩
          have h1 := ho.1
          have h2 := hf.1
          rw [List.length_drop] at h1
          simp only [List.length_nil] at h1
          show (opsR 0 (List.drop 2 (linesV t)) []).2.length ≤ _
          omega
        · exact hb _
theorem kE_le (P : Nat) : ∀ (es : List OE) (k : Nat), (∀ e ∈ es, e.1.picks.length ≤ P) → kE k es ≤ k + es.length * (5 + P)
  | [], k, _ => by simp [kE]
  | e :: r, k, h => by
    have h1 := kE_le P r (k + 5 + e.1.picks.length) (fun x hx => h x (List.mem_cons_of_mem _ hx))
    have h2 := h e (List.mem_cons_self ..)
    rw [kE, List.length_cons, Nat.add_mul]
    omega

set_option maxRecDepth 100000 in
set_option maxHeartbeats 1000000 in
theorem law_parse (t : ByteArray) (w : World) (_ht : t.size ≤ maxLen) (hE : Env w) : Calls Tryz.prog 3 #[.string t] w fun e w' => e = .returned (.bool true) ∧ Below w.heap.size w w' := by
  obtain ⟨M, hM⟩ := mark_ex
  have HM : Hid (MarkSaid M) := hM
  clear hM
  by_cases hbig : 1048576 < t.size
  · have z1 : (t.size : Int) > 1048576 := by omega
    clear _ht hE HM
    go_enter Tryz.func3, Tryz.ntmps3
    go_wp2_with fail
    go_ret
    exact ⟨rfl, Below.refl _ _⟩
  · have z1 : ¬ ((t.size : Int) > 1048576) := by omega
    have hpf := parseR_facts t
    have HSP : Hid (∀ W, Calls Tryz.prog 4 #[.string t] W (ScPost (parseR t) W)) := fun W => sparse_any t W (by omega)
    have HIP : Hid (∀ W, Env W → Calls Tryz.prog 5 #[.string t] W (ScPost (parseR t) W)) := fun W hW => iparse_any t W hW (by omega)
    have hp2 : Hid (∀ es : List OE, es.map (·.1) = (parseR t).ops → es.length ≤ 1048576 ∧ (∀ e ∈ es, e.1.picks.length ≤ 1048576) ∧ kE 1 es ≤ 1000000000000) := fun es hes => by
      have h1 : es.length ≤ 60002 := by have := congrArg List.length hes; rw [List.length_map] at this; have := hpf.1; omega
      have h2 : ∀ e ∈ es, e.1.picks.length ≤ 60002 := fun e he => hpf.2 e.1 (by rw [← hes]; exact List.mem_map_of_mem he)
      refine ⟨by omega, fun e he => Nat.le_trans (h2 e he) (by omega), ?_⟩
      have h3 := kE_le 60002 es 1 h2
      have h4 : es.length * (5 + 60002) ≤ 60002 * 60007 := Nat.mul_le_mul h1 (by omega)
      omega
    generalize parseR t = r at HSP HIP hp2
    unfold ScPost at HSP HIP
    clear _ht hbig hpf
    go_enter Tryz.func3, Tryz.ntmps3
    go_upto_region 4 with (first | (go_at_call 4; refine (HSP.out _).mono ?_; rintro e w1 ⟨es, a, c, hes, rfl, hO1, hb1⟩))
    have HES : Hid (es.map (·.1) = r.ops) := hes
    obtain ⟨N1, hN1⟩ : ∃ N, es.length = N := ⟨_, rfl⟩
    have hN1o : Hid (es.length = N1) := hN1
    rw [hN1]
    have n2 := heap_alloc_new w1 (.cells #[.int .i64 r.wd, .int .i64 r.cap, .slice a N1 c] 24)
    have b2 : Below w1.heap.size w1 (w1.alloc (.cells #[.int .i64 r.wd, .int .i64 r.cap, .slice a N1 c] 24)) := (Below.refl _ _).alloc (Nat.le_refl _) _
    generalize w1.alloc (.cells #[.int .i64 r.wd, .int .i64 r.cap, .slice a N1 c] 24) = w2 at n2 b2 ⊢
    generalize w1.heap.size = gA at n2 ⊢
    have hO2 := hO1.below b2
    have bw2 := hb1.trans (b2.mono hb1.size)
    have hE2 := hE.below bw2
    clear hes hN1 hO1 hb1 b2 HSP
    go_upto_region 5 with (first | (go_at_call 5; refine (HIP.out _ hE2).mono ?_; rintro e w3 ⟨fs, a', c', hfs, rfl, hP3, hb3⟩))
    have HFS : Hid (fs.map (·.1) = r.ops) := hfs
    obtain ⟨N2, hN2⟩ : ∃ N, fs.length = N := ⟨_, rfl⟩
    have hN2o : Hid (fs.length = N2) := hN2
    rw [hN2]
    have n4 := heap_alloc_new w3 (.cells #[.int .i64 r.wd, .int .i64 r.cap, .slice a' N2 c'] 24)
    have b4 : Below w3.heap.size w3 (w3.alloc (.cells #[.int .i64 r.wd, .int .i64 r.cap, .slice a' N2 c'] 24)) := (Below.refl _ _).alloc (Nat.le_refl _) _
    generalize w3.alloc (.cells #[.int .i64 r.wd, .int .i64 r.cap, .slice a' N2 c'] 24) = w4 at n4 b4 ⊢
    have hgB : w2.heap.size ≤ w3.heap.size := hb3.size
    have hgB0 : gA < w2.heap.size := (Array.getElem?_eq_some_iff.1 n2).1
    generalize w3.heap.size = gB at n4 hgB ⊢
    have b24 := hb3.trans (b4.mono hb3.size)
    have hO4 := hO2.below b24
    have hP4 := hP3.below b4
    have n24 := (b24.block gA (Array.getElem?_eq_some_iff.1 n2).1).trans n2
    have bw4 := bw2.trans (b24.mono bw2.size)
    clear hfs hN2 hP3 hb3 b4
    have HEQ : Hid (∀ W fs b2' a'' c'', fs.map (·.1) = r.ops → OpsAt b2' fs a'' c'' W → OpsAt w.heap.size es a c W → Calls Tryz.prog 6 #[.agg #[.int .i64 r.wd, .int .i64 r.cap, .slice a'' fs.length c''], .agg #[.int .i64 r.wd, .int .i64 r.cap, .slice a N1 c]] W fun e w' => e = .returned (.bool true) ∧ Below W.heap.size W w') := fun W fs b2' a'' c'' hf h1 h2 => by
      have := eqScript_same r.wd r.cap fs es (hf.trans HES.out.symm) b2' w.heap.size a'' a c'' c W h1 h2 (hp2.out fs hf).1 (hp2.out fs hf).2.1
      rw [hN1o.out] at this
      exact this
    have HEQ1 := HEQ.out w4 fs w2.heap.size a' c' HFS.out hP4 hO4
    rw [hN2o.out] at HEQ1
    have HEQ1' := fun (_ : Unit) => HEQ1
    clear HEQ1
    have q0 := Lib.cell_of_heap n4 0
    have q1 := Lib.cell_of_heap n4 1
    have q2 := Lib.cell_of_heap n4 2
    have p0 := Lib.cell_of_heap n24 0
    have p1 := Lib.cell_of_heap n24 1
    have p2 := Lib.cell_of_heap n24 2
    go_upto_region 8 with (first | (go_at_call 6; refine (HEQ1' ()).mono ?_; rintro e w5 ⟨rfl, hb5⟩))
    clear p0 p1 p2 q0 q1 q2 HEQ1'
    have hO5 := hO4.below hb5
    have hP5 := hP4.below hb5
    have n25 := (hb5.block gA (Array.getElem?_eq_some_iff.1 n24).1).trans n24
    have n45 := (hb5.block gB (Array.getElem?_eq_some_iff.1 n4).1).trans n4
    have b25 := b24.trans (hb5.mono b24.size)
    clear hO4 hP4 n24 n4 b24 hb5
    have HMK := markScript_any M HM r.wd r.cap w2.heap.size fs a' c' 1 w5 hP5 b25.size (by omega) (hp2.out fs HFS.out).2.2
    rw [hN2o.out] at HMK
    have hz := (hp2.out fs HFS.out).2.2
    generalize hkE : kE 1 fs = z at HMK hz
    have hkEo : Hid (kE 1 fs = z) := hkE
    have HMK' : Hid (∀ _u : Unit, Calls Tryz.prog 7 #[.agg #[.int .i64 r.wd, .int .i64 r.cap, .slice a' N2 c'], .int .i64 1] w5 fun e w' => e = .returned (.int .i64 (z : Int)) ∧ OpsAt w2.heap.size (mkEs M 1 fs) a' c' w' ∧ Below w2.heap.size w5 w' ∧ MkF w5 w') := fun _ => HMK
    clear HMK hkE
    have q0 := Lib.cell_of_heap n45 0
    have q1 := Lib.cell_of_heap n45 1
    have q2 := Lib.cell_of_heap n45 2
    go_upto_region 10 with (first | (go_at_call 7; refine (HMK'.out ()).mono ?_; rintro e w6 ⟨rfl, hP6, hb6, hm6⟩))
    clear q0 q1 q2 HMK'
    have b26 := b25.trans hb6
    have hO6 : OpsAt w.heap.size es a c w6 := hO2.below b26
    have n26 := (b26.block gA (Array.getElem?_eq_some_iff.1 n2).1).trans n2
    have n46 : w6.heap[gB]? = _ := hm6 gB _ _ _ n45 (by decide) (by decide)
    clear hO5 hP5 n25 n45 hm6 hb6 b25
    have HHL := heldScript_any M HM r.wd r.cap w2.heap.size fs a' c' 1 w6 hP6 (by omega) (by rw [hkEo.out]; exact hz)
    rw [hN2o.out, hkEo.out] at HHL
    have HHL' : Hid (∀ _u : Unit, Calls Tryz.prog 8 #[.agg #[.int .i64 r.wd, .int .i64 r.cap, .slice a' N2 c'], .int .i64 1] w6 fun e w' => e = .returned (.int .i64 (z : Int)) ∧ Below w6.heap.size w6 w') := fun _ => HHL
    clear HHL
    have q0 := Lib.cell_of_heap n46 0
    have q1 := Lib.cell_of_heap n46 1
    have q2 := Lib.cell_of_heap n46 2
    have hzn : ¬ ((z : Int) < 0) := by omega
    go_upto_region 15 with (first | (go_at_call 8; refine (HHL'.out ()).mono ?_; rintro e w7 ⟨rfl, hb7⟩))
    clear q0 q1 q2 HHL' hP6
    have b27 := b26.trans (hb7.mono b26.size)
    have bw7 := bw2.trans (b27.mono bw2.size)
    have hO7 := hO6.below hb7
    have n27 := (hb7.block gA (Array.getElem?_eq_some_iff.1 n26).1).trans n26
    have hE7 := hE.below bw7
    clear n26 hO6 n46 hb7
    go_upto_region 16 with (first | (go_at_call 5; refine (HIP.out _ hE7).mono ?_; rintro e w8 ⟨ks, a8, c8, hks, rfl, hP8, hb8⟩))
    have HKS : Hid (ks.map (·.1) = r.ops) := hks
    have n9 := heap_alloc_new w8 (.cells #[.int .i64 r.wd, .int .i64 r.cap, .slice a8 ks.length c8] 24)
    have b9 : Below w8.heap.size w8 (w8.alloc (.cells #[.int .i64 r.wd, .int .i64 r.cap, .slice a8 ks.length c8] 24)) := (Below.refl _ _).alloc (Nat.le_refl _) _
    generalize w8.alloc (.cells #[.int .i64 r.wd, .int .i64 r.cap, .slice a8 ks.length c8] 24) = w9 at n9 b9 ⊢
    generalize w8.heap.size = gC at n9 ⊢
    have b79 := hb8.trans (b9.mono hb8.size)
    have hO9 := hO7.below b79
    have hP9 := hP8.below b9
    have n29 := (b79.block gA (Array.getElem?_eq_some_iff.1 n27).1).trans n27
    have bw9 := bw7.trans (b79.mono bw7.size)
    have HEQ2 := HEQ.out w9 ks w7.heap.size a8 c8 HKS.out hP9 hO9
    have HEQ2' := fun (_ : Unit) => HEQ2
    clear HEQ2 hks hP8 hb8 b9
    generalize ks.length = N3 at HEQ2' n9 ⊢
    have q0 := Lib.cell_of_heap n9 0
    have q1 := Lib.cell_of_heap n9 1
    have q2 := Lib.cell_of_heap n9 2
    have p0 := Lib.cell_of_heap n29 0
    have p1 := Lib.cell_of_heap n29 1
    have p2 := Lib.cell_of_heap n29 2
    go_wp2_with (first | (go_at_call 6; refine (HEQ2' ()).mono ?_; rintro e w10 ⟨rfl, hb10⟩))
    go_ret
    exact ⟨rfl, bw9.trans (hb10.mono bw9.size)⟩
end Go.Proofs.YthklibioolnggaaGreatDoor
