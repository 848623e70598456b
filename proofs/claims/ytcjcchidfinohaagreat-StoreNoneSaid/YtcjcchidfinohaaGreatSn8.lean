/- StoreNone: the law. -/
import Derived.Test.YtcjcchidfinohaaGreatSn7
namespace Go.Sn
open Go.Proofs Go.RowKit Go.Lib Go.Ev
set_option maxRecDepth 100000

/-- A row of seven cells lies at a block. -/
def At7 (w : World) (N : Nat) (a b c d e f g : Value) : Prop :=
  w.cell? ⟨N, 0, none⟩ = some a ∧ w.cell? ⟨N, 1, none⟩ = some b ∧ w.cell? ⟨N, 2, none⟩ = some c ∧ w.cell? ⟨N, 3, none⟩ = some d ∧ w.cell? ⟨N, 4, none⟩ = some e ∧ w.cell? ⟨N, 5, none⟩ = some f ∧ w.cell? ⟨N, 6, none⟩ = some g
theorem At7.kp {w w' : World} {N : Nat} {a b c d e f g : Value} (h : At7 w N a b c d e f g) (hk : Kp w.heap.size w w') : At7 w' N a b c d e f g :=
  ⟨hk.cells h.1, hk.cells h.2.1, hk.cells h.2.2.1, hk.cells h.2.2.2.1, hk.cells h.2.2.2.2.1, hk.cells h.2.2.2.2.2.1, hk.cells h.2.2.2.2.2.2⟩
theorem At7.new (w : World) (a b c d e f g : Value) (t : TypeId) : At7 (w.alloc (.cells #[a, b, c, d, e, f, g] t)) w.heap.size a b c d e f g := by
  refine ⟨?_, ?_, ?_, ?_, ?_, ?_, ?_⟩
  all_goals (rw [World.cell?_alloc_new]; rfl)

theorem Un.nil (w : World) : Un w (.pointer none) := .inl rfl
theorem Un.at' {w : World} {b : Nat} (h : w.cell? ⟨b, 0, none⟩ = some (.pointer none)) : Un w (.pointer (some ⟨b, 0, none⟩)) := .inr ⟨b, rfl, h⟩
theorem alloc_cell {w : World} {b i : Nat} {v : Value} (h : w.cell? ⟨b, i, none⟩ = some v) (o : Obj) : (w.alloc o).cell? ⟨b, i, none⟩ = some v := by
  rw [World.cell?_alloc_past _ b _ (block_lt_of_cell h)]; exact h
theorem At7.alloc {w : World} {N : Nat} {a b c d e f g : Value} (h : At7 w N a b c d e f g) (o : Obj) : At7 (w.alloc o) N a b c d e f g :=
  ⟨alloc_cell h.1 o, alloc_cell h.2.1 o, alloc_cell h.2.2.1 o, alloc_cell h.2.2.2.1 o, alloc_cell h.2.2.2.2.1 o, alloc_cell h.2.2.2.2.2.1 o, alloc_cell h.2.2.2.2.2.2 o⟩

set_option maxHeartbeats 4000000 in
theorem storeNone_true (k a b : Int) (l : ByteArray) (ab nb : Option Addr) (an ac nn nc : Nat) (root : Int) (w : World) :
    Calls Tryz.prog 3 #[act k a b l (.slice ab an ac) (.slice nb nn nc) root] w fun e w' => e = .returned (.bool true) ∧ Kp w.heap.size w w' := by
  obtain ⟨W1, hW1⟩ : ∃ W1, W1 = (w.alloc (.cells #[.int .i64 k, .int .i64 a, .int .i64 b, .string l, .slice ab an ac, .slice nb nn nc, .int .i64 root] 27)).alloc (.cells #[.int .i64 k, .int .i64 a, .int .i64 b, .string l, .slice ab an ac, .slice nb nn nc, .int .i64 root] 27) := ⟨_, rfl⟩
  have HK0 := Lib.hid (show Kp w.heap.size w W1 by subst hW1; exact kp_b2 _ _ _)
  have HN := Lib.hid (show At7 W1 w.heap.size (.int .i64 k) (.int .i64 a) (.int .i64 b) (.string l) (.slice ab an ac) (.slice nb nn nc) (.int .i64 root) by subst hW1; exact (At7.new _ _ _ _ _ _ _ _ _).kp (kp_b1 _ _))
  have HN1 := Lib.hid (show At7 W1 (w.heap.size + 1) (.int .i64 k) (.int .i64 a) (.int .i64 b) (.string l) (.slice ab an ac) (.slice nb nn nc) (.int .i64 root) by
    subst hW1
    have := At7.new (w.alloc (.cells #[.int .i64 k, .int .i64 a, .int .i64 b, .string l, .slice ab an ac, .slice nb nn nc, .int .i64 root] 27)) (.int .i64 k) (.int .i64 a) (.int .i64 b) (.string l) (.slice ab an ac) (.slice nb nn nc) (.int .i64 root) 27
    rwa [World.size_alloc] at this)
  go_enter Tryz.func3, Tryz.ntmps3
  go_wp2_with fail
  rw [← hW1]
  clear hW1
  refine (great_ok (w.heap.size + 1) ab nb an ac nn nc W1 HN1.out.2.2.2.2.1 HN1.out.2.2.2.2.2.1).mono ?_
  rintro e w1 ⟨⟨g, rfl⟩, hk⟩
  have HK1 := Lib.hid (HK0.out.trans (hk.mono HK0.out.size))
  have HX1 := Lib.hid (HN.out.kp hk)
  clear hk HN HN1 HK0
  have HX2 := Lib.hid (HX1.out.alloc (.cells #[.pointer none, .slice none 0 0, .slice none 0 0, .slice none 0 0] 35))
  have HU2 := Lib.hid (show (w1.alloc (.cells #[.pointer none, .slice none 0 0, .slice none 0 0, .slice none 0 0] 35)).cell? ⟨w1.heap.size, 0, none⟩ = some (.pointer none) by rw [World.cell?_alloc_new]; rfl)
  have HK2 := Lib.hid (HK1.out.alloc HK1.out.size (.cells #[.pointer none, .slice none 0 0, .slice none 0 0, .slice none 0 0] 35))
  cases g
  · obtain ⟨a0, a1, a2, a3, a4, a5, a6⟩ := HX2.out
    go_wp2_with (first
    | (go_at_call 6; (with_reducible refine (play_ok (.pointer none) k a b l ab an ac _ root _ (Un.nil _)).mono ?_); rintro e w3 ⟨rfl, hk⟩
       have HX3 := Lib.hid (HX2.out.kp hk); have HU3 := Lib.hid (hk.cells HU2.out); have HK3 := Lib.hid (kp_then HK2.out hk); clear hk HX2 HU2; obtain ⟨a0, a1, a2, a3, a4, a5, a6⟩ := HX3.out)
    | (go_at_call 6; (with_reducible refine (play_ok (.pointer (some ⟨w1.heap.size, 0, none⟩)) k a b l ab an ac _ root _ (Un.at' HU3.out)).mono ?_); rintro e w4 ⟨rfl, hk⟩
       have HX4 := Lib.hid (HX3.out.kp hk); have HU4 := Lib.hid (hk.cells HU3.out); have HK4 := Lib.hid (kp_then HK3.out hk); clear hk HX3 HU3)
    | (go_at_call 7; (with_reducible refine (same_ok (.pointer none) _ (Un.nil _)).mono ?_); rintro e w5 ⟨rfl, hk⟩
       have HX5 := Lib.hid (HX4.out.kp hk); have HU5 := Lib.hid (hk.cells HU4.out); have HK5 := Lib.hid (kp_then HK4.out hk); clear hk HX4 HU4)
    | (go_at_call 7; (with_reducible refine (same_ok (.pointer (some ⟨w1.heap.size, 0, none⟩)) _ (Un.at' HU5.out)).mono ?_); rintro e w6 ⟨rfl, hk⟩
       have HX6 := Lib.hid (HX5.out.kp hk); have HU6 := Lib.hid (hk.cells HU5.out); have HK6 := Lib.hid (kp_then HK5.out hk); clear hk HX5 HU5; have a1 := HX6.out.2.1)
    | (go_at_call 8; (with_reducible refine (looks_ok (.pointer none) a _ (Un.nil _)).mono ?_); rintro e w7 ⟨rfl, hk⟩
       have HX7 := Lib.hid (HX6.out.kp hk); have HU7 := Lib.hid (hk.cells HU6.out); have HK7 := Lib.hid (kp_then HK6.out hk); clear hk HX6 HU6; have a1 := HX7.out.2.1)
    | (go_at_call 8; (with_reducible refine (looks_ok (.pointer (some ⟨w1.heap.size, 0, none⟩)) a _ (Un.at' HU7.out)).mono ?_); rintro e w8 ⟨rfl, hk⟩
       have HX8 := Lib.hid (HX7.out.kp hk); have HU8 := Lib.hid (hk.cells HU7.out); have HK8 := Lib.hid (kp_then HK7.out hk); clear hk HX7 HU7)
    | (go_at_call 9; (with_reducible refine (clone_ok (.pointer none) _ (Un.nil _)).mono ?_); rintro e w9 ⟨rfl, hk⟩
       have HX9 := Lib.hid (HX8.out.kp hk); have HU9 := Lib.hid (hk.cells HU8.out); have HK9 := Lib.hid (kp_then HK8.out hk); clear hk HX8 HU8)
    | (go_at_call 9; (with_reducible refine (clone_ok (.pointer (some ⟨w1.heap.size, 0, none⟩)) _ (Un.at' HU9.out)).mono ?_); rintro e w10 ⟨rfl, hk⟩
       have HX10 := Lib.hid (HX9.out.kp hk); have HU10 := Lib.hid (hk.cells HU9.out); have HK10 := Lib.hid (kp_then HK9.out hk); clear hk HX9 HU9)
    | (go_at_call 5; refine (alive_kp _).mono ?_; rintro e w11 ⟨rfl, hk⟩; have HK11 := Lib.hid (kp_then HK10.out hk); clear hk))
    go_ret
    exact ⟨rfl, HK11.out⟩
  · clear HX1 HX2 HU2
    go_wp2_with (go_at_call 5; refine (alive_kp _).mono ?_; rintro e w2 ⟨rfl, hk⟩; have HK3 := Lib.hid (kp_then HK1.out hk); clear hk)
    go_ret
    exact ⟨rfl, HK3.out⟩
end Go.Sn
