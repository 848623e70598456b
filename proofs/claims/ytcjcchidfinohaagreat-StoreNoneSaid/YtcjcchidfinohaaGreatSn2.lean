/- What the calls of a store return that nobody made. -/
import Derived.Test.YtcjcchidfinohaaGreatKp
import Derived.Test.YtcjcchidfinohaaGreatProg
import Derived.ProofKit
import Derived.WalkKit
import Derived.RowKit3
import Derived.Lib.Hide
import Derived.StillTailTactics
namespace Go.Sn
open Go.Proofs Go.RowKit Go.Lib Go.Ev
set_option maxRecDepth 100000

/-- Nobody has made the store: there is none, or its first field is none. -/
def Un (w : World) (s : Value) : Prop := s = .pointer none ∨ ∃ b, s = .pointer (some ⟨b, 0, none⟩) ∧ w.cell? ⟨b, 0, none⟩ = some (.pointer none)
theorem Un.kp {w w' : World} {s : Value} (h : Un w s) (hk : Kp w.heap.size w w') : Un w' s := by
  rcases h with rfl | ⟨b, rfl, hc⟩
  · exact .inl rfl
  · exact .inr ⟨b, rfl, hk.cells hc⟩
theorem nil_other {P : Program} {tp te : TypeId} (hp : P.underlying tp = some (.pointer te)) (a : Addr) (w : World) : (binOp .eql tp (.pointer none) (.pointer (some a))).run P w = .ok (.bool false) w := by
  have h : ∀ d : Nat, (Op.equalIn (d + 1) tp (.pointer none) (.pointer (some a))).run P w = .ok false w := fun d => by
    simp [Op.equalIn, run_underlying hp]
  simp only [binOp]
  simp [Op.equal, Op.maxDepth, h 9999]

set_option maxHeartbeats 400000 in
theorem made_ok (s : Value) (w : World) (h : Un w s) : Calls Tryz.prog 40 #[s] w fun e w' => e = .returned (.bool false) ∧ Kp w.heap.size w w' := by
  rcases h with rfl | ⟨b, rfl, hc⟩
  · go_enter Tryz.func40, Tryz.ntmps40
    go_wp2_with fail
    go_ret
    exact ⟨rfl, Kp.refl _ _⟩
  · have hq := fun w => nil_other Tryz.underlying31 ⟨b, 0, none⟩ w
    go_enter Tryz.func40, Tryz.ntmps40
    go_wp2_with fail
    go_ret
    exact ⟨rfl, Kp.refl _ _⟩

set_option maxHeartbeats 400000 in
theorem rmade_ok (w : World) : Calls Tryz.prog 56 #[.pointer none] w fun e w' => e = .returned (.bool false) ∧ Kp w.heap.size w w' := by
  go_enter Tryz.func56, Tryz.ntmps56
  go_wp2_with fail
  go_ret
  exact ⟨rfl, Kp.refl _ _⟩

theorem kp_b1 (w : World) (o : Obj) : Kp w.heap.size w (w.alloc o) := (Kp.refl _ _).alloc (Nat.le_refl _) _
theorem kp_b2 (w : World) (o o' : Obj) : Kp w.heap.size w ((w.alloc o).alloc o') := (kp_b1 w o).alloc (by simp) _
theorem kp_t {B : Nat} {a b c : World} (h : Kp B a b) (k : Kp b.heap.size b c) (hB : B ≤ b.heap.size) : Kp B a c := h.trans (k.mono hB)
theorem kp_box1 {w w' : World} {o : Obj} (h : Kp (w.alloc o).heap.size (w.alloc o) w') : Kp w.heap.size w w' := kp_t (kp_b1 w o) h (by simp)
theorem kp_box2 {w w' : World} {o o' : Obj} (h : Kp ((w.alloc o).alloc o').heap.size ((w.alloc o).alloc o') w') : Kp w.heap.size w w' := kp_t (kp_b2 w o o') h (by simp; omega)

theorem kp_own {w w' : World} (h : Kp w.heap.size w w') (o : Nat) (u : Value) : Kp w.heap.size w (w'.setCell ⟨w.heap.size, o, none⟩ u) := h.setCell (p := ⟨w.heap.size, o, none⟩) (Nat.le_refl _) u
theorem box4 {w w' : World} {a b c d : Value} {t : TypeId} (h : Kp (w.alloc (.cells #[a, b, c, d] t)).heap.size (w.alloc (.cells #[a, b, c, d] t)) w') :
    w'.cell? ⟨w.heap.size, 0, none⟩ = some a ∧ w'.cell? ⟨w.heap.size, 1, none⟩ = some b ∧ w'.cell? ⟨w.heap.size, 2, none⟩ = some c ∧ w'.cell? ⟨w.heap.size, 3, none⟩ = some d ∧ (∀ o, w'.frozen? ⟨w.heap.size, o, none⟩ = false) ∧ w.heap.size < w'.heap.size ∧ Kp w.heap.size w w' := by
  have hz : w.heap.size < (w.alloc (.cells #[a, b, c, d] t)).heap.size := by simp
  refine ⟨?_, ?_, ?_, ?_, fun o => ?_, Nat.lt_of_lt_of_le hz h.size, ((Kp.refl _ _).alloc (Nat.le_refl _) _).trans (h.mono (Nat.le_of_lt hz))⟩
  · rw [h.cell hz, World.cell?_alloc_new]; rfl
  · rw [h.cell hz, World.cell?_alloc_new]; rfl
  · rw [h.cell hz, World.cell?_alloc_new]; rfl
  · rw [h.cell hz, World.cell?_alloc_new]; rfl
  · rw [h.frozen hz]; simp [go_sem]
theorem box2 {w w' : World} {a b : Value} {t : TypeId} (h : Kp (w.alloc (.cells #[a, b] t)).heap.size (w.alloc (.cells #[a, b] t)) w') :
    w'.cell? ⟨w.heap.size, 0, none⟩ = some a ∧ w'.cell? ⟨w.heap.size, 1, none⟩ = some b ∧ (∀ o, w'.frozen? ⟨w.heap.size, o, none⟩ = false) ∧ w.heap.size < w'.heap.size ∧ Kp w.heap.size w w' := by
  have hz : w.heap.size < (w.alloc (.cells #[a, b] t)).heap.size := by simp
  refine ⟨?_, ?_, fun o => ?_, Nat.lt_of_lt_of_le hz h.size, ((Kp.refl _ _).alloc (Nat.le_refl _) _).trans (h.mono (Nat.le_of_lt hz))⟩
  · rw [h.cell hz, World.cell?_alloc_new]; rfl
  · rw [h.cell hz, World.cell?_alloc_new]; rfl
  · rw [h.frozen hz]; simp [go_sem]

set_option maxHeartbeats 400000 in
theorem leaf_ok (s : Value) (k i : Int) (l : ByteArray) (a : Value) (w : World) (h : Un w s) : Calls Tryz.prog 44 #[s, .agg #[.int .i64 k, .int .i64 i, .string l, a]] w fun e w' => e = .returned (.tuple #[.int .i64 0, .int .i64 6]) ∧ Kp w.heap.size w w' := by
  go_enter Tryz.func44, Tryz.ntmps44
  go_wp2_with (first
    | (go_at_call 40; refine (made_ok s _ (by first | exact h | exact h.kp (kp_b1 _ _) | exact h.kp (kp_b2 _ _ _))).mono ?_; rintro e w' ⟨rfl, hk⟩))
  go_ret2
  exact ⟨rfl, by first | exact hk | exact kp_box1 hk | exact kp_box2 hk⟩

set_option maxHeartbeats 400000 in
theorem check_ok (s : Value) (v : Value) (w : World) (h : Un w s) : Calls Tryz.prog 45 #[s, v] w fun e w' => e = .returned (.int .i64 6) ∧ Kp w.heap.size w w' := by
  go_enter Tryz.func45, Tryz.ntmps45
  go_wp2_with (first
    | (go_at_call 40; refine (made_ok s _ (by first | exact h | exact h.kp (kp_b1 _ _) | exact h.kp (kp_b2 _ _ _))).mono ?_; rintro e w' ⟨rfl, hk⟩))
  go_ret
  exact ⟨rfl, by first | exact hk | exact kp_box1 hk | exact kp_box2 hk⟩

set_option maxHeartbeats 400000 in
theorem var_ok (s : Value) (w : World) (h : Un w s) : Calls Tryz.prog 11 #[s] w fun e w' => e = .returned (.tuple #[.int .i64 0, .int .i64 6]) ∧ Kp w.heap.size w w' := by
  go_enter Tryz.func11, Tryz.ntmps11
  go_wp2_with (first
    | (go_at_call 44; refine (leaf_ok s _ _ _ _ _ (by first | exact h | exact h.kp (kp_b1 _ _) | exact h.kp (kp_b2 _ _ _))).mono ?_; rintro e w' ⟨rfl, hk⟩))
  go_ret2
  exact ⟨rfl, by first | exact hk | exact kp_box1 hk | exact kp_box2 hk⟩

set_option maxHeartbeats 400000 in
theorem int_ok (s : Value) (n : Int) (w : World) (h : Un w s) : Calls Tryz.prog 16 #[s, .int .i64 n] w fun e w' => e = .returned (.tuple #[.int .i64 0, .int .i64 6]) ∧ Kp w.heap.size w w' := by
  go_enter Tryz.func16, Tryz.ntmps16
  go_wp2_with (first
    | (go_at_call 44; refine (leaf_ok s _ _ _ _ _ (by first | exact h | exact h.kp (kp_b1 _ _) | exact h.kp (kp_b2 _ _ _))).mono ?_; rintro e w' ⟨rfl, hk⟩))
  go_ret2
  exact ⟨rfl, by first | exact hk | exact kp_box1 hk | exact kp_box2 hk⟩

set_option maxHeartbeats 400000 in
theorem atom_ok (s : Value) (x : ByteArray) (w : World) (h : Un w s) : Calls Tryz.prog 12 #[s, .string x] w fun e w' => e = .returned (.tuple #[.int .i64 0, .int .i64 6]) ∧ Kp w.heap.size w w' := by
  go_enter Tryz.func12, Tryz.ntmps12
  go_wp2_with (first
    | (go_at_call 44; refine (leaf_ok s _ _ _ _ _ (by first | exact h | exact h.kp (kp_b1 _ _) | exact h.kp (kp_b2 _ _ _))).mono ?_; rintro e w' ⟨rfl, hk⟩))
  go_ret2
  exact ⟨rfl, by first | exact hk | exact kp_box1 hk | exact kp_box2 hk⟩

set_option maxHeartbeats 400000 in
theorem name_ok (s : Value) (x : ByteArray) (n : Int) (w : World) (h : Un w s) : Calls Tryz.prog 24 #[s, .string x, .int .i64 n] w fun e w' => e = .returned (.tuple #[.int .i64 0, .int .i64 6]) ∧ Kp w.heap.size w w' := by
  go_enter Tryz.func24, Tryz.ntmps24
  go_wp2_with (first
    | (go_at_call 44; refine (leaf_ok s _ _ _ _ _ (by first | exact h | exact h.kp (kp_b1 _ _) | exact h.kp (kp_b2 _ _ _))).mono ?_; rintro e w' ⟨rfl, hk⟩))
  go_ret2
  exact ⟨rfl, by first | exact hk | exact kp_box1 hk | exact kp_box2 hk⟩

set_option maxHeartbeats 400000 in
theorem tuple_ok (s : Value) (x : ByteArray) (a : Value) (w : World) (h : Un w s) : Calls Tryz.prog 22 #[s, .string x, a] w fun e w' => e = .returned (.tuple #[.int .i64 0, .int .i64 6]) ∧ Kp w.heap.size w w' := by
  go_enter Tryz.func22, Tryz.ntmps22
  go_wp2_with (first
    | (go_at_call 40; refine (made_ok s _ (by first | exact h | exact h.kp (kp_b1 _ _) | exact h.kp (kp_b2 _ _ _))).mono ?_; rintro e w' ⟨rfl, hk⟩))
  go_ret2
  exact ⟨rfl, by first | exact hk | exact kp_box1 hk | exact kp_box2 hk⟩

set_option maxHeartbeats 400000 in
theorem add_ok (s : Value) (a : Value) (n : Int) (w : World) (h : Un w s) : Calls Tryz.prog 26 #[s, .agg #[a, .int .i64 n]] w fun e w' => e = .returned (.tuple #[.int .i64 0, .int .i64 6]) ∧ Kp w.heap.size w w' := by
  go_enter Tryz.func26, Tryz.ntmps26
  go_wp2_with (first
    | (go_at_call 40; refine (made_ok s _ (by first | exact h | exact h.kp (kp_b1 _ _) | exact h.kp (kp_b2 _ _ _))).mono ?_; rintro e w' ⟨rfl, hk⟩))
  go_ret2
  exact ⟨rfl, by first | exact hk | exact kp_box1 hk | exact kp_box2 hk⟩

set_option maxHeartbeats 400000 in
theorem unify_ok (s : Value) (a b : Int) (w : World) (h : Un w s) : Calls Tryz.prog 13 #[s, .int .i64 a, .int .i64 b] w fun e w' => e = .returned (.tuple #[.slice none 0 0, .int .i64 6]) ∧ Kp w.heap.size w w' := by
  go_enter Tryz.func13, Tryz.ntmps13
  go_wp2_with (first
    | (go_at_call 45; refine (check_ok s _ _ (by first | exact h | exact h.kp (kp_b1 _ _) | exact h.kp (kp_b2 _ _ _))).mono ?_; rintro e w' ⟨rfl, hk⟩))
  go_ret2
  exact ⟨rfl, by first | exact hk | exact kp_box1 hk | exact kp_box2 hk⟩

set_option maxHeartbeats 400000 in
theorem test_ok (s : Value) (a b : Int) (w : World) (h : Un w s) : Calls Tryz.prog 15 #[s, .int .i64 a, .int .i64 b] w fun e w' => e = .returned (.tuple #[.int .i64 0, .slice none 0 0, .int .i64 6]) ∧ Kp w.heap.size w w' := by
  go_enter Tryz.func15, Tryz.ntmps15
  go_wp2_with (first
    | (go_at_call 45; refine (check_ok s _ _ (by first | exact h | exact h.kp (kp_b1 _ _) | exact h.kp (kp_b2 _ _ _))).mono ?_; rintro e w' ⟨rfl, hk⟩))
  go_ret3
  exact ⟨rfl, by first | exact hk | exact kp_box1 hk | exact kp_box2 hk⟩

set_option maxHeartbeats 400000 in
theorem rep_ok (s : Value) (n : Int) (w : World) (h : Un w s) : Calls Tryz.prog 14 #[s, .int .i64 n] w fun e w' => e = .returned (.tuple #[.int .i64 0, .int .i64 6]) ∧ Kp w.heap.size w w' := by
  go_enter Tryz.func14, Tryz.ntmps14
  go_wp2_with (first
    | (go_at_call 45; refine (check_ok s _ _ (by first | exact h | exact h.kp (kp_b1 _ _) | exact h.kp (kp_b2 _ _ _))).mono ?_; rintro e w' ⟨rfl, hk⟩))
  go_ret2
  exact ⟨rfl, by first | exact hk | exact kp_box1 hk | exact kp_box2 hk⟩

set_option maxHeartbeats 400000 in
theorem value_ok (s : Value) (n : Int) (w : World) (h : Un w s) : Calls Tryz.prog 32 #[s, .int .i64 n] w fun e w' => e = .returned (.tuple #[.agg #[.int .i64 0, .int .i64 0, .string ⟨#[]⟩, .slice none 0 0], .int .i64 6]) ∧ Kp w.heap.size w w' := by
  go_enter Tryz.func32, Tryz.ntmps32
  go_wp2_with (first
    | (go_at_call 45; refine (check_ok s _ _ (by first | exact h | exact h.kp (kp_b1 _ _) | exact h.kp (kp_b2 _ _ _))).mono ?_; rintro e w' ⟨rfl, hk⟩; obtain ⟨hc0, hc1, hc2, hc3, hf, hz, hkp⟩ := box4 (kp_box1 hk); have HK := Lib.hid hkp; clear hk hkp))
  refine bodyPost_ret (v := .tuple #[.agg #[.int .i64 0, .int .i64 0, .string ⟨#[]⟩, .slice none 0 0], .int .i64 6]) ?_ rfl ⟨rfl, ?_⟩
  · simp [results, Tryz.results32, go_sem, hc0, hc1, hc2, hc3]
  · repeat (first | exact HK.out | refine kp_own ?_ _ _)

set_option maxHeartbeats 400000 in
theorem tree_ok (s : Value) (n : Int) (w : World) (h : Un w s) : Calls Tryz.prog 34 #[s, .int .i64 n] w fun e w' => e = .returned (.tuple #[.agg #[.slice none 0 0, .int .i64 0], .int .i64 6]) ∧ Kp w.heap.size w w' := by
  go_enter Tryz.func34, Tryz.ntmps34
  go_wp2_with (first
    | (go_at_call 45; refine (check_ok s _ _ (by first | exact h | exact h.kp (kp_b1 _ _) | exact h.kp (kp_b2 _ _ _))).mono ?_; rintro e w' ⟨rfl, hk⟩; obtain ⟨hc0, hc1, hf, hz, hkp⟩ := box2 (kp_box1 hk); have HK := Lib.hid hkp; clear hk hkp))
  refine bodyPost_ret (v := .tuple #[.agg #[.slice none 0 0, .int .i64 0], .int .i64 6]) ?_ rfl ⟨rfl, ?_⟩
  · simp [results, Tryz.results34, go_sem, hc0, hc1]
  · repeat (first | exact HK.out | refine kp_own ?_ _ _)

set_option maxHeartbeats 400000 in
theorem free_ok (s : Value) (n : Int) (w : World) (h : Un w s) : Calls Tryz.prog 36 #[s, .int .i64 n] w fun e w' => e = .returned (.tuple #[.slice none 0 0, .int .i64 6]) ∧ Kp w.heap.size w w' := by
  go_enter Tryz.func36, Tryz.ntmps36
  go_wp2_with (first
    | (go_at_call 45; refine (check_ok s _ _ (by first | exact h | exact h.kp (kp_b1 _ _) | exact h.kp (kp_b2 _ _ _))).mono ?_; rintro e w' ⟨rfl, hk⟩))
  go_ret2
  exact ⟨rfl, by first | exact hk | exact kp_box1 hk | exact kp_box2 hk⟩

set_option maxHeartbeats 400000 in
theorem size_ok (s : Value) (w : World) (h : Un w s) : Calls Tryz.prog 18 #[s] w fun e w' => e = .returned (.int .i64 0) ∧ Kp w.heap.size w w' := by
  go_enter Tryz.func18, Tryz.ntmps18
  go_wp2_with (first
    | (go_at_call 40; refine (made_ok s _ (by first | exact h | exact h.kp (kp_b1 _ _) | exact h.kp (kp_b2 _ _ _))).mono ?_; rintro e w' ⟨rfl, hk⟩))
  go_ret
  exact ⟨rfl, by first | exact hk | exact kp_box1 hk | exact kp_box2 hk⟩

set_option maxHeartbeats 400000 in
theorem clone_ok (s : Value) (w : World) (h : Un w s) : Calls Tryz.prog 9 #[s] w fun e w' => e = .returned (.pointer none) ∧ Kp w.heap.size w w' := by
  go_enter Tryz.func9, Tryz.ntmps9
  go_wp2_with (first
    | (go_at_call 40; refine (made_ok s _ (by first | exact h | exact h.kp (kp_b1 _ _) | exact h.kp (kp_b2 _ _ _))).mono ?_; rintro e w' ⟨rfl, hk⟩))
  go_ret
  exact ⟨rfl, by first | exact hk | exact kp_box1 hk | exact kp_box2 hk⟩

set_option maxHeartbeats 400000 in
theorem rnode_ok (k i : Int) (l : ByteArray) (a : Value) (w : World) : Calls Tryz.prog 50 #[.pointer none, .agg #[.int .i64 k, .int .i64 i, .string l, a]] w fun e w' => e = .returned (.tuple #[.int .i64 0, .int .i64 6]) ∧ Kp w.heap.size w w' := by
  go_enter Tryz.func50, Tryz.ntmps50
  go_wp2_with (first
    | (go_at_call 56; refine (rmade_ok _).mono ?_; rintro e w' ⟨rfl, hk⟩))
  go_ret2
  exact ⟨rfl, by first | exact hk | exact kp_box1 hk | exact kp_box2 hk⟩

set_option maxHeartbeats 400000 in
theorem rvar_ok (w : World) : Calls Tryz.prog 19 #[.pointer none] w fun e w' => e = .returned (.tuple #[.int .i64 0, .int .i64 6]) ∧ Kp w.heap.size w w' := by
  go_enter Tryz.func19, Tryz.ntmps19
  go_wp2_with (first
    | (go_at_call 50; refine (rnode_ok _ _ _ _ _).mono ?_; rintro e w' ⟨rfl, hk⟩))
  go_ret2
  exact ⟨rfl, by first | exact hk | exact kp_box1 hk | exact kp_box2 hk⟩

set_option maxHeartbeats 400000 in
theorem rint_ok (n : Int) (w : World) : Calls Tryz.prog 20 #[.pointer none, .int .i64 n] w fun e w' => e = .returned (.tuple #[.int .i64 0, .int .i64 6]) ∧ Kp w.heap.size w w' := by
  go_enter Tryz.func20, Tryz.ntmps20
  go_wp2_with (first
    | (go_at_call 50; refine (rnode_ok _ _ _ _ _).mono ?_; rintro e w' ⟨rfl, hk⟩))
  go_ret2
  exact ⟨rfl, by first | exact hk | exact kp_box1 hk | exact kp_box2 hk⟩

set_option maxHeartbeats 400000 in
theorem ratom_ok (x : ByteArray) (w : World) : Calls Tryz.prog 21 #[.pointer none, .string x] w fun e w' => e = .returned (.tuple #[.int .i64 0, .int .i64 6]) ∧ Kp w.heap.size w w' := by
  go_enter Tryz.func21, Tryz.ntmps21
  go_wp2_with (first
    | (go_at_call 50; refine (rnode_ok _ _ _ _ _).mono ?_; rintro e w' ⟨rfl, hk⟩))
  go_ret2
  exact ⟨rfl, by first | exact hk | exact kp_box1 hk | exact kp_box2 hk⟩

set_option maxHeartbeats 400000 in
theorem rtuple_ok (x : ByteArray) (ab : Option Addr) (an ac : Nat) (w : World) : Calls Tryz.prog 23 #[.pointer none, .string x, .slice ab an ac] w fun e w' => e = .returned (.tuple #[.int .i64 0, .int .i64 6]) ∧ Kp w.heap.size w w' := by
  go_enter Tryz.func23, Tryz.ntmps23
  go_wp2_with (first
    | (go_at_call 50; refine (rnode_ok _ _ _ _ _).mono ?_; rintro e w' ⟨rfl, hk⟩))
  go_ret2
  exact ⟨rfl, by first | exact hk | exact kp_box1 hk | exact kp_box2 hk⟩

set_option maxHeartbeats 400000 in
theorem rname_ok (x : ByteArray) (n : Int) (w : World) : Calls Tryz.prog 25 #[.pointer none, .string x, .int .i64 n] w fun e w' => e = .returned (.tuple #[.int .i64 0, .int .i64 6]) ∧ Kp w.heap.size w w' := by
  go_enter Tryz.func25, Tryz.ntmps25
  go_wp2_with (first
    | (go_at_call 50; refine (rnode_ok _ _ _ _ _).mono ?_; rintro e w' ⟨rfl, hk⟩))
  go_ret2
  exact ⟨rfl, by first | exact hk | exact kp_box1 hk | exact kp_box2 hk⟩

set_option maxHeartbeats 400000 in
theorem radd_ok (a : Value) (n : Int) (w : World) : Calls Tryz.prog 27 #[.pointer none, .agg #[a, .int .i64 n]] w fun e w' => e = .returned (.tuple #[.int .i64 0, .int .i64 6]) ∧ Kp w.heap.size w w' := by
  go_enter Tryz.func27, Tryz.ntmps27
  go_wp2_with (first
    | (go_at_call 56; refine (rmade_ok _).mono ?_; rintro e w' ⟨rfl, hk⟩))
  go_ret2
  exact ⟨rfl, by first | exact hk | exact kp_box1 hk | exact kp_box2 hk⟩

set_option maxHeartbeats 400000 in
theorem runify_ok (a b : Int) (w : World) : Calls Tryz.prog 28 #[.pointer none, .int .i64 a, .int .i64 b] w fun e w' => e = .returned (.tuple #[.slice none 0 0, .int .i64 6]) ∧ Kp w.heap.size w w' := by
  go_enter Tryz.func28, Tryz.ntmps28
  go_wp2_with (first
    | (go_at_call 56; refine (rmade_ok _).mono ?_; rintro e w' ⟨rfl, hk⟩))
  go_ret2
  exact ⟨rfl, by first | exact hk | exact kp_box1 hk | exact kp_box2 hk⟩

set_option maxHeartbeats 400000 in
theorem rtest_ok (a b : Int) (w : World) : Calls Tryz.prog 29 #[.pointer none, .int .i64 a, .int .i64 b] w fun e w' => e = .returned (.tuple #[.int .i64 0, .slice none 0 0, .int .i64 6]) ∧ Kp w.heap.size w w' := by
  go_enter Tryz.func29, Tryz.ntmps29
  go_wp2_with (first
    | (go_at_call 56; refine (rmade_ok _).mono ?_; rintro e w' ⟨rfl, hk⟩))
  go_ret3
  exact ⟨rfl, by first | exact hk | exact kp_box1 hk | exact kp_box2 hk⟩

set_option maxHeartbeats 400000 in
theorem rrep_ok (n : Int) (w : World) : Calls Tryz.prog 31 #[.pointer none, .int .i64 n] w fun e w' => e = .returned (.tuple #[.int .i64 0, .int .i64 6]) ∧ Kp w.heap.size w w' := by
  go_enter Tryz.func31, Tryz.ntmps31
  go_wp2_with (first
    | (go_at_call 56; refine (rmade_ok _).mono ?_; rintro e w' ⟨rfl, hk⟩))
  go_ret2
  exact ⟨rfl, by first | exact hk | exact kp_box1 hk | exact kp_box2 hk⟩

set_option maxHeartbeats 400000 in
theorem rvalue_ok (n : Int) (w : World) : Calls Tryz.prog 33 #[.pointer none, .int .i64 n] w fun e w' => e = .returned (.tuple #[.agg #[.int .i64 0, .int .i64 0, .string ⟨#[]⟩, .slice none 0 0], .int .i64 6]) ∧ Kp w.heap.size w w' := by
  go_enter Tryz.func33, Tryz.ntmps33
  go_wp2_with (first
    | (go_at_call 56; refine (rmade_ok _).mono ?_; rintro e w' ⟨rfl, hk⟩; obtain ⟨hc0, hc1, hc2, hc3, hf, hz, hkp⟩ := box4 hk; have HK := Lib.hid hkp; clear hk hkp))
  refine bodyPost_ret (v := .tuple #[.agg #[.int .i64 0, .int .i64 0, .string ⟨#[]⟩, .slice none 0 0], .int .i64 6]) ?_ rfl ⟨rfl, ?_⟩
  · simp [results, Tryz.results33, go_sem, hc0, hc1, hc2, hc3]
  · repeat (first | exact HK.out | refine kp_own ?_ _ _)

set_option maxHeartbeats 400000 in
theorem rtree_ok (n : Int) (w : World) : Calls Tryz.prog 35 #[.pointer none, .int .i64 n] w fun e w' => e = .returned (.tuple #[.agg #[.slice none 0 0, .int .i64 0], .int .i64 6]) ∧ Kp w.heap.size w w' := by
  go_enter Tryz.func35, Tryz.ntmps35
  go_wp2_with (first
    | (go_at_call 56; refine (rmade_ok _).mono ?_; rintro e w' ⟨rfl, hk⟩; obtain ⟨hc0, hc1, hf, hz, hkp⟩ := box2 hk; have HK := Lib.hid hkp; clear hk hkp))
  refine bodyPost_ret (v := .tuple #[.agg #[.slice none 0 0, .int .i64 0], .int .i64 6]) ?_ rfl ⟨rfl, ?_⟩
  · simp [results, Tryz.results35, go_sem, hc0, hc1]
  · repeat (first | exact HK.out | refine kp_own ?_ _ _)

set_option maxHeartbeats 400000 in
theorem rfree_ok (n : Int) (w : World) : Calls Tryz.prog 37 #[.pointer none, .int .i64 n] w fun e w' => e = .returned (.tuple #[.slice none 0 0, .int .i64 6]) ∧ Kp w.heap.size w w' := by
  go_enter Tryz.func37, Tryz.ntmps37
  go_wp2_with (first
    | (go_at_call 56; refine (rmade_ok _).mono ?_; rintro e w' ⟨rfl, hk⟩))
  go_ret2
  exact ⟨rfl, by first | exact hk | exact kp_box1 hk | exact kp_box2 hk⟩

set_option maxHeartbeats 400000 in
theorem rsize_ok (w : World) : Calls Tryz.prog 30 #[.pointer none] w fun e w' => e = .returned (.int .i64 0) ∧ Kp w.heap.size w w' := by
  go_enter Tryz.func30, Tryz.ntmps30
  go_wp2_with (first
    | (go_at_call 56; refine (rmade_ok _).mono ?_; rintro e w' ⟨rfl, hk⟩))
  go_ret
  exact ⟨rfl, by first | exact hk | exact kp_box1 hk | exact kp_box2 hk⟩
end Go.Sn
