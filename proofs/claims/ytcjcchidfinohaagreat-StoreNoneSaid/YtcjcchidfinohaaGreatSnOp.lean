/- The argument read as data; what a law owes that returns true and leaves the memory alone. -/
import Derived.Test.YtcjcchidfinohaaGreatSn8
import Derived.Test.YtcjcchidfinohaaGreatRows
import Derived.OpenShut
import Derived.Deep.Slices
import Derived.Lib.SmallJoins
import Derived.Carry
import Derived.WalkKit
import Derived.Deep.DeepHandedRow
import Derived.Deep.DeepWitnessRowRef
import Derived.Lib.LaidTab
namespace Go.Sn
open Go.Proofs Go.RowKit Go.Lib Go.Ev Go.ChangeShapes Go.WideShapes Go.ChangeAt Go.Deep
set_option maxRecDepth 100000
section
variable {H : Type} {enc : TypeId × Value → H} {W : World} {base : Nat} {sp : Nat → Bool} {held : Bool}

theorem cells27 : Tryz.prog.cellsOf 27 = 7 := by kernel_rfl
theorem cells25 : Tryz.prog.cellsOf 25 = 2 := by kernel_rfl
theorem cells3 : Tryz.prog.cellsOf 3 = 1 := by kernel_rfl
theorem cells9 : Tryz.prog.cellsOf 9 = 1 := by kernel_rfl
theorem cells22 : Tryz.prog.cellsOf 22 = 1 := by kernel_rfl
theorem cells23 : Tryz.prog.cellsOf 23 = 1 := by kernel_rfl

/-- A call. -/
theorem open_act {r : Reach} {b0 : Nat} {v : Value} {d : DataW H} {p : List MemPlace} (hv : Value.okWide Tryz.prog W r b0 27 v) (h : DataW.Trod enc Tryz.prog W base sp held 27 v d p) :
    ∃ (k a b : Int) (l : ByteArray) (ab nb : Option Addr) (an ac nn nc : Nat) (root : Int), v = act k a b l (.slice ab an ac) (.slice nb nn nc) root := by
  obtain ⟨cs, rfl, hsz⟩ := okWide_struct Tryz.underlying27 hv
  obtain ⟨l⟩ := cs
  have hsz' : l.length = 7 := hsz.trans cells27
  match l, hsz' with
  | [c0, c1, c2, c3, c4, c5, c6], _ =>
  obtain ⟨fuel, hf⟩ := h
  obtain ⟨xs, n, _, hx, _, hlen, hfs⟩ := DataW.trod_struct Tryz.underlying27 hf
  match xs, hlen with
  | [y0, y1, y2, y3, y4, y5], _ =>
  have h0 : DataW.trod enc Tryz.prog W base sp held n 3 [c0] = some y0 := by simpa [Value.cells, cells3] using hfs 0 _ rfl
  have h1 : DataW.trod enc Tryz.prog W base sp held n 3 [c1] = some y1 := by simpa [Value.cells, cells3] using hfs 1 _ rfl
  have h2 : DataW.trod enc Tryz.prog W base sp held n 3 [c2] = some y2 := by simpa [Value.cells, cells3] using hfs 2 _ rfl
  have h3 : DataW.trod enc Tryz.prog W base sp held n 9 [c3] = some y3 := by simpa [Value.cells, cells9] using hfs 3 _ rfl
  have h4 : DataW.trod enc Tryz.prog W base sp held n 22 [c4] = some y4 := by simpa [Value.cells, cells22] using hfs 4 _ rfl
  have h5 : DataW.trod enc Tryz.prog W base sp held n 25 [c5, c6] = some y5 := by simpa [Value.cells, cells25] using hfs 5 _ rfl
  obtain ⟨z0, e0, _⟩ := DataW.trod_int Tryz.underlying3 h0
  obtain ⟨z1, e1, _⟩ := DataW.trod_int Tryz.underlying3 h1
  obtain ⟨z2, e2, _⟩ := DataW.trod_int Tryz.underlying3 h2
  obtain ⟨s3, e3, _, _⟩ := DataW.trod_string Tryz.underlying9 h3
  obtain ⟨a4, n4, k4, e4⟩ := Joins.slice_form Tryz.underlying22 h4
  obtain ⟨ys, n', _, _, _, hlen5, hf5⟩ := DataW.trod_struct Tryz.underlying25 h5
  match ys, hlen5 with
  | [u0, u1], _ =>
  have g0 : DataW.trod enc Tryz.prog W base sp held n' 23 [c5] = some u0 := by simpa [cells23] using hf5 0 _ rfl
  have g1 : DataW.trod enc Tryz.prog W base sp held n' 3 [c6] = some u1 := by simpa [cells3] using hf5 1 _ rfl
  obtain ⟨a5, n5, k5, e5⟩ := Joins.slice_form Tryz.underlying23 g0
  obtain ⟨z6, e6, _⟩ := DataW.trod_int Tryz.underlying3 g1
  obtain rfl : c0 = .int .i64 z0 := by simpa using e0
  obtain rfl : c1 = .int .i64 z1 := by simpa using e1
  obtain rfl : c2 = .int .i64 z2 := by simpa using e2
  obtain rfl : c3 = .string s3 := by simpa using e3
  obtain rfl : c4 = .slice a4 n4 k4 := by simpa using e4
  obtain rfl : c5 = .slice a5 n5 k5 := by simpa using e5
  obtain rfl : c6 = .int .i64 z6 := by simpa using e6
  exact ⟨_, _, _, _, _, _, _, _, _, _, _, rfl⟩
end

theorem Kp.same' {w w' : World} (h : Kp w.heap.size w w') {p : MemPlace} (hp : p.block < w.heap.size) : w.sameAt w' p := by
  cases p with
  | cell b o => exact h.cell hp
  | map b => exact h.block b hp

section
variable {H : Type} {enc : TypeId × Value → H}
theorem trodAll_stays {P : Program} (hl : laidOutB P = true) {W W' : World} (hk : Kp W.heap.size W W') :
    ∀ {ts : List TypeId} {vs : List Value} {ds : List (DataW H)} {ps : List MemPlace}, (∀ t ∈ ts, P.readableRec t = true ∧ t < P.types.size) → DataW.TrodAll enc P W 0 (fun _ => true) true ts vs ds ps → (∀ p ∈ ps, p.block < W.heap.size) →
      DataW.TrodAll enc P W' 0 (fun b => decide (b < W.heap.size)) true ts vs ds ps
  | [], vs, ds, ps, _, h, _ => by
    obtain ⟨rfl, rfl, rfl⟩ := trodAll_nil h
    exact trodAll_mk0
  | t :: ts, vs, ds, ps, ht, h, hp => by
    obtain ⟨v, vs', d, ds', p, q, rfl, rfl, rfl, h1, h2⟩ := trodAll_cons h
    obtain ⟨r1, r2⟩ := ht t (List.mem_cons_self ..)
    exact trodAll_cons_mk (WideElems.Trod_stays hl r1 r2 h1 (fun p hp' => Kp.same' hk (hp p (List.mem_append_left _ hp'))) (fun p hp' => by simpa using hp p (List.mem_append_left _ hp')))
      (trodAll_stays hl hk (fun t' ht' => ht t' (List.mem_cons_of_mem _ ht')) h2 (fun p hp' => hp p (List.mem_append_right _ hp')))

/-- What a law owes that returns true and leaves the memory alone. -/
theorem post_law {P : Program} (hl : laidOutB P = true) {f : Func} {s : ChangeSpec} {bt : TypeId} (hb : P.underlying bt = some .bool) (hres : f.resultTypes = #[bt]) (hvars : s.vars = [])
    (hts : ∀ t ∈ f.params.toList, P.readableRec t = true ∧ t < P.types.size) {W W' : World} {args : Array Value} {ds gs : List (DataW H)} {before : List MemPlace}
    (hW : DataW.Whole enc P f.params.toList s.vars false W args.toList ds gs before) (hfn : s.fn H ds = { results := [.lit (.bool true)], args := ds }) (hk : Kp W.heap.size W W') :
    s.post enc P f false true false false W args (.bool true) W' := by
  have hW' := hW
  have hlt := hW.lt
  obtain ⟨p, q, hA, hV, rfl, hfz, hnd⟩ := hW
  rw [hvars] at hV
  obtain ⟨rfl, rfl⟩ := trodVars_none hV
  rw [List.append_nil] at hW' hlt
  have hfn' : s.fn H (ds ++ []) = { results := [.lit (.bool true)], args := ds } := by rw [List.append_nil]; exact hfn
  refine ⟨ds, [], p, [], p, [], hW', ?_, ?_, ?_, ?_, fun h => by cases h⟩
  · rw [hfn', hres]
    exact trodAll_cons_mk (shut_bool hb _) trodAll_mk0
  · rw [hfn']
    exact trodAll_stays hl hk hts hA hlt
  · rw [hfn', hvars]
    rfl
  · exact World.keptBut_mono (fun x hx => ⟨hx, .inr (.inl hx)⟩) (hk.frame (· ∈ p))
end
end Go.Sn
