import Derived.Test.YthklibioolnggaaGreatDoorAt
namespace Go.Proofs.YthklibioolnggaaGreatDoor
open Go.RowKit Go.Proofs.Sha

set_option maxRecDepth 100000 in
set_option maxHeartbeats 400000 in
theorem fn_open (ws : List ByteArray) (ns : List Int) (aw : Option Addr) (cw : Nat) (an : Option Addr) (cn : Nat) (w : World) (_hT : TArg aw ws w) (_hI : IArg an ns w) (hp : ws.length = 0) (hq : ns.length = 0) : Calls Tryz.prog 35 #[.agg #[.slice aw ws.length cw, .slice an ns.length cn]] w fun e w' => e = .returned (.agg #[.int .i64 1, .string ⟨#[]⟩, .string ⟨#[]⟩, .int .i64 0, .int .i64 0, .slice none 0 0]) ∧ Below w.heap.size w w' := by
  rw [hp, hq]
  clear  _hT _hI
  clear hp hq
  go_enter Tryz.func35, Tryz.ntmps35
  go_wp2_with fail
  refine bodyPost_ret (v := .agg #[.int .i64 1, .string ⟨#[]⟩, .string ⟨#[]⟩, .int .i64 0, .int .i64 0, .slice none 0 0]) ?_ rfl ⟨rfl, ?_⟩
  · simp [results, Tryz.results35, go_sem, asAddr]
  · first | exact ((Below.refl _ w).alloc (Nat.le_refl _) _).alloc (by simp) _ | exact (((Below.refl _ w).alloc (Nat.le_refl _) _).alloc (by simp) _).drew
set_option maxRecDepth 100000 in
set_option maxHeartbeats 400000 in
theorem fn_put (ws : List ByteArray) (ns : List Int) (aw : Option Addr) (cw : Nat) (an : Option Addr) (cn : Nat) (w : World) (hT : TArg aw ws w) (_hI : IArg an ns w) (hp : ws.length = 2) (hq : ns.length = 0) : Calls Tryz.prog 36 #[.agg #[.slice aw ws.length cw, .slice an ns.length cn]] w fun e w' => e = .returned (.agg #[.int .i64 2, .string (ws.getD 0 ⟨#[]⟩), .string (ws.getD 1 ⟨#[]⟩), .int .i64 0, .int .i64 0, .slice none 0 0]) ∧ Below w.heap.size w w' := by
  rw [hp, hq]
  obtain ⟨bw, ow, rfl, hbw, hcw⟩ := hT.at_ (by omega)
  have kw0 := hcw 0 (by omega)
  rw [Nat.add_zero] at kw0
  have kw1 := hcw 1 (by omega)
  generalize ws.getD 0 ⟨#[]⟩ = K0 at kw0 ⊢
  generalize ws.getD 1 ⟨#[]⟩ = K1 at kw1 ⊢
  clear hcw  hT _hI
  clear hp hq
  go_enter Tryz.func36, Tryz.ntmps36
  go_wp2_with fail
  go_region
  go_wp2_with fail
  refine bodyPost_ret (v := .agg #[.int .i64 2, .string K0, .string K1, .int .i64 0, .int .i64 0, .slice none 0 0]) ?_ rfl ⟨rfl, ?_⟩
  · simp [results, Tryz.results36, go_sem, asAddr]
  · first | exact ((Below.refl _ w).alloc (Nat.le_refl _) _).alloc (by simp) _ | exact (((Below.refl _ w).alloc (Nat.le_refl _) _).alloc (by simp) _).drew
set_option maxRecDepth 100000 in
set_option maxHeartbeats 400000 in
theorem fn_del (ws : List ByteArray) (ns : List Int) (aw : Option Addr) (cw : Nat) (an : Option Addr) (cn : Nat) (w : World) (hT : TArg aw ws w) (_hI : IArg an ns w) (hp : ws.length = 1) (hq : ns.length = 0) : Calls Tryz.prog 37 #[.agg #[.slice aw ws.length cw, .slice an ns.length cn]] w fun e w' => e = .returned (.agg #[.int .i64 3, .string (ws.getD 0 ⟨#[]⟩), .string ⟨#[]⟩, .int .i64 0, .int .i64 0, .slice none 0 0]) ∧ Below w.heap.size w w' := by
  rw [hp, hq]
  obtain ⟨bw, ow, rfl, hbw, hcw⟩ := hT.at_ (by omega)
  have kw0 := hcw 0 (by omega)
  rw [Nat.add_zero] at kw0
  generalize ws.getD 0 ⟨#[]⟩ = K0 at kw0 ⊢
  clear hcw  hT _hI
  clear hp hq
  go_enter Tryz.func37, Tryz.ntmps37
  go_wp2_with fail
  refine bodyPost_ret (v := .agg #[.int .i64 3, .string K0, .string ⟨#[]⟩, .int .i64 0, .int .i64 0, .slice none 0 0]) ?_ rfl ⟨rfl, ?_⟩
  · simp [results, Tryz.results37, go_sem, asAddr]
  · first | exact ((Below.refl _ w).alloc (Nat.le_refl _) _).alloc (by simp) _ | exact (((Below.refl _ w).alloc (Nat.le_refl _) _).alloc (by simp) _).drew
set_option maxRecDepth 100000 in
set_option maxHeartbeats 400000 in
theorem fn_get (ws : List ByteArray) (ns : List Int) (aw : Option Addr) (cw : Nat) (an : Option Addr) (cn : Nat) (w : World) (hT : TArg aw ws w) (_hI : IArg an ns w) (hp : ws.length = 1) (hq : ns.length = 0) : Calls Tryz.prog 38 #[.agg #[.slice aw ws.length cw, .slice an ns.length cn]] w fun e w' => e = .returned (.agg #[.int .i64 4, .string (ws.getD 0 ⟨#[]⟩), .string ⟨#[]⟩, .int .i64 0, .int .i64 0, .slice none 0 0]) ∧ Below w.heap.size w w' := by
  rw [hp, hq]
  obtain ⟨bw, ow, rfl, hbw, hcw⟩ := hT.at_ (by omega)
  have kw0 := hcw 0 (by omega)
  rw [Nat.add_zero] at kw0
  generalize ws.getD 0 ⟨#[]⟩ = K0 at kw0 ⊢
  clear hcw  hT _hI
  clear hp hq
  go_enter Tryz.func38, Tryz.ntmps38
  go_wp2_with fail
  refine bodyPost_ret (v := .agg #[.int .i64 4, .string K0, .string ⟨#[]⟩, .int .i64 0, .int .i64 0, .slice none 0 0]) ?_ rfl ⟨rfl, ?_⟩
  · simp [results, Tryz.results38, go_sem, asAddr]
  · first | exact ((Below.refl _ w).alloc (Nat.le_refl _) _).alloc (by simp) _ | exact (((Below.refl _ w).alloc (Nat.le_refl _) _).alloc (by simp) _).drew
set_option maxRecDepth 100000 in
set_option maxHeartbeats 400000 in
theorem fn_range (ws : List ByteArray) (ns : List Int) (aw : Option Addr) (cw : Nat) (an : Option Addr) (cn : Nat) (w : World) (hT : TArg aw ws w) (_hI : IArg an ns w) (hp : ws.length = 2) (hq : ns.length = 0) : Calls Tryz.prog 39 #[.agg #[.slice aw ws.length cw, .slice an ns.length cn]] w fun e w' => e = .returned (.agg #[.int .i64 5, .string (ws.getD 0 ⟨#[]⟩), .string (ws.getD 1 ⟨#[]⟩), .int .i64 0, .int .i64 0, .slice none 0 0]) ∧ Below w.heap.size w w' := by
  rw [hp, hq]
  obtain ⟨bw, ow, rfl, hbw, hcw⟩ := hT.at_ (by omega)
  have kw0 := hcw 0 (by omega)
  rw [Nat.add_zero] at kw0
  have kw1 := hcw 1 (by omega)
  generalize ws.getD 0 ⟨#[]⟩ = K0 at kw0 ⊢
  generalize ws.getD 1 ⟨#[]⟩ = K1 at kw1 ⊢
  clear hcw  hT _hI
  clear hp hq
  go_enter Tryz.func39, Tryz.ntmps39
  go_wp2_with fail
  go_region
  go_wp2_with fail
  refine bodyPost_ret (v := .agg #[.int .i64 5, .string K0, .string K1, .int .i64 0, .int .i64 0, .slice none 0 0]) ?_ rfl ⟨rfl, ?_⟩
  · simp [results, Tryz.results39, go_sem, asAddr]
  · first | exact ((Below.refl _ w).alloc (Nat.le_refl _) _).alloc (by simp) _ | exact (((Below.refl _ w).alloc (Nat.le_refl _) _).alloc (by simp) _).drew
set_option maxRecDepth 100000 in
set_option maxHeartbeats 400000 in
theorem fn_commit (ws : List ByteArray) (ns : List Int) (aw : Option Addr) (cw : Nat) (an : Option Addr) (cn : Nat) (w : World) (_hT : TArg aw ws w) (_hI : IArg an ns w) (hp : ws.length = 0) (hq : ns.length = 0) : Calls Tryz.prog 40 #[.agg #[.slice aw ws.length cw, .slice an ns.length cn]] w fun e w' => e = .returned (.agg #[.int .i64 6, .string ⟨#[]⟩, .string ⟨#[]⟩, .int .i64 0, .int .i64 0, .slice none 0 0]) ∧ Below w.heap.size w w' := by
  rw [hp, hq]
  clear  _hT _hI
  clear hp hq
  go_enter Tryz.func40, Tryz.ntmps40
  go_wp2_with fail
  refine bodyPost_ret (v := .agg #[.int .i64 6, .string ⟨#[]⟩, .string ⟨#[]⟩, .int .i64 0, .int .i64 0, .slice none 0 0]) ?_ rfl ⟨rfl, ?_⟩
  · simp [results, Tryz.results40, go_sem, asAddr]
  · first | exact ((Below.refl _ w).alloc (Nat.le_refl _) _).alloc (by simp) _ | exact (((Below.refl _ w).alloc (Nat.le_refl _) _).alloc (by simp) _).drew
set_option maxRecDepth 100000 in
set_option maxHeartbeats 400000 in
theorem fn_checkout (ws : List ByteArray) (ns : List Int) (aw : Option Addr) (cw : Nat) (an : Option Addr) (cn : Nat) (w : World) (_hT : TArg aw ws w) (hI : IArg an ns w) (hp : ws.length = 0) (hq : ns.length = 1) : Calls Tryz.prog 41 #[.agg #[.slice aw ws.length cw, .slice an ns.length cn]] w fun e w' => e = .returned (.agg #[.int .i64 7, .string ⟨#[]⟩, .string ⟨#[]⟩, .int .i64 (ns.getD 0 0), .int .i64 0, .slice none 0 0]) ∧ Below w.heap.size w w' := by
  rw [hp, hq]
  obtain ⟨bq, oq, rfl, hbq, hcq⟩ := hI.at_ (by omega)
  have kn0 := hcq 0 (by omega)
  rw [Nat.add_zero] at kn0
  generalize ns.getD 0 0 = N0 at kn0 ⊢
  clear hcq _hT hI
  clear hp hq
  go_enter Tryz.func41, Tryz.ntmps41
  go_wp2_with fail
  refine bodyPost_ret (v := .agg #[.int .i64 7, .string ⟨#[]⟩, .string ⟨#[]⟩, .int .i64 N0, .int .i64 0, .slice none 0 0]) ?_ rfl ⟨rfl, ?_⟩
  · simp [results, Tryz.results41, go_sem, asAddr]
  · first | exact ((Below.refl _ w).alloc (Nat.le_refl _) _).alloc (by simp) _ | exact (((Below.refl _ w).alloc (Nat.le_refl _) _).alloc (by simp) _).drew
set_option maxRecDepth 100000 in
set_option maxHeartbeats 400000 in
theorem fn_versions (ws : List ByteArray) (ns : List Int) (aw : Option Addr) (cw : Nat) (an : Option Addr) (cn : Nat) (w : World) (_hT : TArg aw ws w) (_hI : IArg an ns w) (hp : ws.length = 0) (hq : ns.length = 0) : Calls Tryz.prog 42 #[.agg #[.slice aw ws.length cw, .slice an ns.length cn]] w fun e w' => e = .returned (.agg #[.int .i64 8, .string ⟨#[]⟩, .string ⟨#[]⟩, .int .i64 0, .int .i64 0, .slice none 0 0]) ∧ Below w.heap.size w w' := by
  rw [hp, hq]
  clear  _hT _hI
  clear hp hq
  go_enter Tryz.func42, Tryz.ntmps42
  go_wp2_with fail
  refine bodyPost_ret (v := .agg #[.int .i64 8, .string ⟨#[]⟩, .string ⟨#[]⟩, .int .i64 0, .int .i64 0, .slice none 0 0]) ?_ rfl ⟨rfl, ?_⟩
  · simp [results, Tryz.results42, go_sem, asAddr]
  · first | exact ((Below.refl _ w).alloc (Nat.le_refl _) _).alloc (by simp) _ | exact (((Below.refl _ w).alloc (Nat.le_refl _) _).alloc (by simp) _).drew
set_option maxRecDepth 100000 in
set_option maxHeartbeats 400000 in
theorem fn_prove (ws : List ByteArray) (ns : List Int) (aw : Option Addr) (cw : Nat) (an : Option Addr) (cn : Nat) (w : World) (hT : TArg aw ws w) (hI : IArg an ns w) (hp : ws.length = 2) (hq : ns.length = 1) : Calls Tryz.prog 43 #[.agg #[.slice aw ws.length cw, .slice an ns.length cn]] w fun e w' => e = .returned (.agg #[.int .i64 9, .string (ws.getD 0 ⟨#[]⟩), .string (ws.getD 1 ⟨#[]⟩), .int .i64 (ns.getD 0 0), .int .i64 0, .slice none 0 0]) ∧ Below w.heap.size w w' := by
  rw [hp, hq]
  obtain ⟨bw, ow, rfl, hbw, hcw⟩ := hT.at_ (by omega)
  have kw0 := hcw 0 (by omega)
  rw [Nat.add_zero] at kw0
  have kw1 := hcw 1 (by omega)
  obtain ⟨bq, oq, rfl, hbq, hcq⟩ := hI.at_ (by omega)
  have kn0 := hcq 0 (by omega)
  rw [Nat.add_zero] at kn0
  generalize ws.getD 0 ⟨#[]⟩ = K0 at kw0 ⊢
  generalize ws.getD 1 ⟨#[]⟩ = K1 at kw1 ⊢
  generalize ns.getD 0 0 = N0 at kn0 ⊢
  clear hcw hcq hT hI
  clear hp hq
  go_enter Tryz.func43, Tryz.ntmps43
  go_wp2_with fail
  go_region
  go_wp2_with fail
  refine bodyPost_ret (v := .agg #[.int .i64 9, .string K0, .string K1, .int .i64 N0, .int .i64 0, .slice none 0 0]) ?_ rfl ⟨rfl, ?_⟩
  · simp [results, Tryz.results43, go_sem, asAddr]
  · first | exact ((Below.refl _ w).alloc (Nat.le_refl _) _).alloc (by simp) _ | exact (((Below.refl _ w).alloc (Nat.le_refl _) _).alloc (by simp) _).drew
set_option maxRecDepth 100000 in
set_option maxHeartbeats 400000 in
theorem fn_diff (ws : List ByteArray) (ns : List Int) (aw : Option Addr) (cw : Nat) (an : Option Addr) (cn : Nat) (w : World) (_hT : TArg aw ws w) (hI : IArg an ns w) (hp : ws.length = 0) (hq : ns.length = 2) : Calls Tryz.prog 44 #[.agg #[.slice aw ws.length cw, .slice an ns.length cn]] w fun e w' => e = .returned (.agg #[.int .i64 10, .string ⟨#[]⟩, .string ⟨#[]⟩, .int .i64 (ns.getD 0 0), .int .i64 (ns.getD 1 0), .slice none 0 0]) ∧ Below w.heap.size w w' := by
  rw [hp, hq]
  obtain ⟨bq, oq, rfl, hbq, hcq⟩ := hI.at_ (by omega)
  have kn0 := hcq 0 (by omega)
  rw [Nat.add_zero] at kn0
  have kn1 := hcq 1 (by omega)
  generalize ns.getD 0 0 = N0 at kn0 ⊢
  generalize ns.getD 1 0 = N1 at kn1 ⊢
  clear hcq _hT hI
  clear hp hq
  go_enter Tryz.func44, Tryz.ntmps44
  go_wp2_with fail
  go_region
  go_wp2_with fail
  refine bodyPost_ret (v := .agg #[.int .i64 10, .string ⟨#[]⟩, .string ⟨#[]⟩, .int .i64 N0, .int .i64 N1, .slice none 0 0]) ?_ rfl ⟨rfl, ?_⟩
  · simp [results, Tryz.results44, go_sem, asAddr]
  · first | exact ((Below.refl _ w).alloc (Nat.le_refl _) _).alloc (by simp) _ | exact (((Below.refl _ w).alloc (Nat.le_refl _) _).alloc (by simp) _).drew
set_option maxRecDepth 100000 in
set_option maxHeartbeats 400000 in
theorem fn_close (ws : List ByteArray) (ns : List Int) (aw : Option Addr) (cw : Nat) (an : Option Addr) (cn : Nat) (w : World) (_hT : TArg aw ws w) (_hI : IArg an ns w) (hp : ws.length = 0) (hq : ns.length = 0) : Calls Tryz.prog 45 #[.agg #[.slice aw ws.length cw, .slice an ns.length cn]] w fun e w' => e = .returned (.agg #[.int .i64 11, .string ⟨#[]⟩, .string ⟨#[]⟩, .int .i64 0, .int .i64 0, .slice none 0 0]) ∧ Below w.heap.size w w' := by
  rw [hp, hq]
  clear  _hT _hI
  clear hp hq
  go_enter Tryz.func45, Tryz.ntmps45
  go_wp2_with fail
  refine bodyPost_ret (v := .agg #[.int .i64 11, .string ⟨#[]⟩, .string ⟨#[]⟩, .int .i64 0, .int .i64 0, .slice none 0 0]) ?_ rfl ⟨rfl, ?_⟩
  · simp [results, Tryz.results45, go_sem, asAddr]
  · first | exact ((Below.refl _ w).alloc (Nat.le_refl _) _).alloc (by simp) _ | exact (((Below.refl _ w).alloc (Nat.le_refl _) _).alloc (by simp) _).drew
set_option maxRecDepth 100000 in
set_option maxHeartbeats 400000 in
theorem fn_crash (ws : List ByteArray) (ns : List Int) (aw : Option Addr) (cw : Nat) (an : Option Addr) (cn : Nat) (w : World) (_hT : TArg aw ws w) (_hI : IArg an ns w) : Calls Tryz.prog 46 #[.agg #[.slice aw ws.length cw, .slice an ns.length cn]] w fun e w' => e = .returned (.agg #[.int .i64 12, .string ⟨#[]⟩, .string ⟨#[]⟩, .int .i64 0, .int .i64 0, .slice an ns.length cn]) ∧ Below w.heap.size w w' := by
  clear  _hT _hI
  go_enter Tryz.func46, Tryz.ntmps46
  go_wp2_with fail
  refine bodyPost_ret (v := .agg #[.int .i64 12, .string ⟨#[]⟩, .string ⟨#[]⟩, .int .i64 0, .int .i64 0, .slice an ns.length cn]) ?_ rfl ⟨rfl, ?_⟩
  · simp [results, Tryz.results46, go_sem, asAddr]
  · first | exact ((Below.refl _ w).alloc (Nat.le_refl _) _).alloc (by simp) _ | exact (((Below.refl _ w).alloc (Nat.le_refl _) _).alloc (by simp) _).drew
set_option maxRecDepth 100000 in
set_option maxHeartbeats 400000 in
theorem fn_fuel (ws : List ByteArray) (ns : List Int) (aw : Option Addr) (cw : Nat) (an : Option Addr) (cn : Nat) (w : World) (_hT : TArg aw ws w) (hI : IArg an ns w) (hp : ws.length = 0) (hq : ns.length = 1) : Calls Tryz.prog 47 #[.agg #[.slice aw ws.length cw, .slice an ns.length cn]] w fun e w' => e = .returned (.agg #[.int .i64 13, .string ⟨#[]⟩, .string ⟨#[]⟩, .int .i64 (ns.getD 0 0), .int .i64 0, .slice none 0 0]) ∧ Below w.heap.size w w' := by
  rw [hp, hq]
  obtain ⟨bq, oq, rfl, hbq, hcq⟩ := hI.at_ (by omega)
  have kn0 := hcq 0 (by omega)
  rw [Nat.add_zero] at kn0
  generalize ns.getD 0 0 = N0 at kn0 ⊢
  clear hcq _hT hI
  clear hp hq
  go_enter Tryz.func47, Tryz.ntmps47
  go_wp2_with fail
  refine bodyPost_ret (v := .agg #[.int .i64 13, .string ⟨#[]⟩, .string ⟨#[]⟩, .int .i64 N0, .int .i64 0, .slice none 0 0]) ?_ rfl ⟨rfl, ?_⟩
  · simp [results, Tryz.results47, go_sem, asAddr]
  · first | exact ((Below.refl _ w).alloc (Nat.le_refl _) _).alloc (by simp) _ | exact (((Below.refl _ w).alloc (Nat.le_refl _) _).alloc (by simp) _).drew
end Go.Proofs.YthklibioolnggaaGreatDoor
