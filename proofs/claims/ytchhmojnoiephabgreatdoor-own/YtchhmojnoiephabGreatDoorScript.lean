import Derived.Test.YtchhmojnoiephabGreatDoorRows
import Derived.WalkKit
import Derived.ProofKit
import Derived.OpenShut
import Derived.ShutString
import Derived.SizedLaws
import Derived.Deep.Slices
import Derived.Deep.OwnShut
namespace Go.Proofs.YtchhmojnoiephabGreatDoor
open Go.ChangeShapes Go.WideShapes Go.ChangeAt Go.RowKit Go.Deep
open Go.ChangeMaps (open_string shut_string)
set_option linter.unusedVariables false

/-- a step of a script -/
structure OpV where
  kind : Int
  a : Int
  b : Int
  s : ByteArray
  t : ByteArray
instance : Inhabited OpV := ⟨⟨0, 0, 0, ByteArray.empty, ByteArray.empty⟩⟩

def OpV.fits (o : OpV) : Prop := (Lit.int .i64 o.kind).wf = true ∧ (Lit.int .i64 o.a).wf = true ∧ (Lit.int .i64 o.b).wf = true ∧ o.s.size ≤ maxLen ∧ o.t.size ≤ maxLen

/-- a step's five cells -/
def OpCells (w : World) (b off : Nat) (o : OpV) : Prop :=
  w.cell? ⟨b, off, none⟩ = some (.int .i64 o.kind) ∧ w.cell? ⟨b, off + 1, none⟩ = some (.int .i64 o.a) ∧ w.cell? ⟨b, off + 2, none⟩ = some (.int .i64 o.b) ∧ w.cell? ⟨b, off + 3, none⟩ = some (.string o.s) ∧ w.cell? ⟨b, off + 4, none⟩ = some (.string o.t)

/-- a script in memory -/
def OpsAt (w : World) (v : Value) (ops : List OpV) : Prop :=
  ∃ (a : Option Addr) (cap : Nat), v = .slice a ops.length cap ∧ ops.length ≤ cap ∧ cap ≤ maxLen ∧ (∀ o ∈ ops, o.fits) ∧
    (ops ≠ [] → ∃ b off, a = some ⟨b, off, none⟩ ∧ b < w.heap.size ∧ ∀ i (h : i < ops.length), OpCells w b (off + i * 5) ops[i])

theorem under_op : ∃ f0 f1 f2 f3 f4 : Field, Tryz.prog.underlying 38 = some (.struct #[f0, f1, f2, f3, f4]) ∧
    f0.type = 3 ∧ f0.offset = 0 ∧ f1.type = 3 ∧ f1.offset = 1 ∧ f2.type = 3 ∧ f2.offset = 2 ∧ f3.type = 9 ∧ f3.offset = 3 ∧ f4.type = 9 ∧ f4.offset = 4 :=
  ⟨_, _, _, _, _, Tryz.underlying38.trans (by rfl), rfl, rfl, rfl, rfl, rfl, rfl, rfl, rfl, rfl, rfl⟩

theorem cells_op : Tryz.prog.cellsOf 38 = 5 := by kernel_rfl
theorem cells_int : Tryz.prog.cellsOf 3 = 1 := by kernel_rfl
theorem cells_str : Tryz.prog.cellsOf 9 = 1 := by kernel_rfl

section
variable {H : Type} {enc : TypeId × Value → H} {W : World} {sp : Nat → Bool} {held : Bool}

set_option maxRecDepth 1000000 in
theorem open_op {n : Nat} {a : Addr} {cs : List Value} {y : DataW H × List MemPlace} (h1 : W.cells? 0 a 5 = some cs) (h2 : DataW.trod enc Tryz.prog W 0 sp held n 38 cs = some y) :
    ∃ o : OpV, o.fits ∧ W.cell? a = some (.int .i64 o.kind) ∧ W.cell? (a.add 1) = some (.int .i64 o.a) ∧ W.cell? (a.add 2) = some (.int .i64 o.b) ∧ W.cell? (a.add 3) = some (.string o.s) ∧ W.cell? (a.add 4) = some (.string o.t) := by
  obtain ⟨f0, f1, f2, f3, f4, hu, t0, o0, t1, o1, t2, o2, t3, o3, t4, o4⟩ := under_op
  obtain ⟨_, hlen, hcell⟩ := World.cells?_some h1
  obtain ⟨xs, k, hk, hxy, _, hxl, hf⟩ := DataW.trod_struct hu h2
  match cs, hlen with
  | [v0, v1, v2, v3, v4], _ =>
    match xs, hxl with
    | [y0, y1, y2, y3, y4], _ =>
      have g0 := hf 0 f0 rfl
      have g1 := hf 1 f1 rfl
      have g2 := hf 2 f2 rfl
      have g3 := hf 3 f3 rfl
      have g4 := hf 4 f4 rfl
      simp [t0, o0, t1, o1, t2, o2, t3, o3, t4, o4, cells_int, cells_str] at g0 g1 g2 g3 g4
      obtain ⟨z0, e0, _, w0⟩ := DataW.trod_int Tryz.underlying3 g0
      obtain ⟨z1, e1, _, w1⟩ := DataW.trod_int Tryz.underlying3 g1
      obtain ⟨z2, e2, _, w2⟩ := DataW.trod_int Tryz.underlying3 g2
      obtain ⟨s3, e3, _, w3⟩ := DataW.trod_string Tryz.underlying9 g3
      obtain ⟨s4, e4, _, w4⟩ := DataW.trod_string Tryz.underlying9 g4
      simp at e0 e1 e2 e3 e4
      subst e0 e1 e2 e3 e4
      have c0 := hcell 0 (by omega)
      have c1 := hcell 1 (by omega)
      have c2 := hcell 2 (by omega)
      have c3 := hcell 3 (by omega)
      have c4 := hcell 4 (by omega)
      exact ⟨⟨z0, z1, z2, s3, s4⟩, ⟨w0, w1, w2, w3, w4⟩, by simpa [Addr.add] using c0, by simpa using c1, by simpa using c2, by simpa using c3, by simpa using c4⟩

theorem open_script {fuel len cap : Nat} {ao : Option Addr} {x : DataW H × List MemPlace} (hf : DataW.trod enc Tryz.prog W 0 sp held fuel 22 [.slice ao len cap] = some x) :
    ∃ ops : List OpV, ops.length = len ∧ OpsAt W (.slice ao len cap) ops ∧ (ops ≠ [] → ∃ D E, x.1 = .slice D E ∧ D.length = len) := by
  rcases open_slice Tryz.underlying22 hf with ⟨hcs, hx⟩ | ⟨a, l, c, m, n, D, Pl, hcs, hb, hl, hm, hmm, hx, hel⟩
  · simp only [List.cons.injEq, Value.slice.injEq, and_true] at hcs
    obtain ⟨rfl, rfl, rfl⟩ := hcs
    exact ⟨[], rfl, ⟨none, 0, rfl, by simp, by simp, by simp, fun h => absurd rfl h⟩, fun h => absurd rfl h⟩
  · simp only [List.cons.injEq, Value.slice.injEq, and_true] at hcs
    obtain ⟨rfl, rfl, rfl⟩ := hcs
    have hlm : len ≤ m := by rw [hmm]; split <;> omega
    have each : ∀ i, i < len → ∃ o : OpV, o.fits ∧ W.cell? (a.add (i * 5)) = some (.int .i64 o.kind) ∧ W.cell? ((a.add (i * 5)).add 1) = some (.int .i64 o.a) ∧ W.cell? ((a.add (i * 5)).add 2) = some (.int .i64 o.b) ∧ W.cell? ((a.add (i * 5)).add 3) = some (.string o.s) ∧ W.cell? ((a.add (i * 5)).add 4) = some (.string o.t) := by
      intro i hi
      obtain ⟨cs', h1, h2⟩ := hel i (by omega)
      rw [cells_op] at h1
      exact open_op h1 h2
    obtain ⟨q, hq⟩ := choose_lt each
    refine ⟨(List.range len).map q, by simp, ⟨some a, cap, by simp, by simpa using hl, hm, fun o ho => ?_, fun hne => ?_⟩, fun _ => ⟨_, _, by rw [hx], by simp⟩⟩
    · obtain ⟨i, hi, rfl⟩ := List.mem_map.1 ho
      exact (hq i (List.mem_range.1 hi)).1
    · have hpos : 0 < len := by
        refine Nat.pos_of_ne_zero fun h0 => hne ?_
        subst h0; rfl
      have h0 := (hq 0 hpos).2.1
      have hsp : a.spot = none := by simpa [Addr.add] using World.cell?_spot h0
      obtain ⟨b, off, spot⟩ := a
      simp only at hsp
      subst hsp
      refine ⟨b, off, rfl, ?_, fun i hi => ?_⟩
      · refine Nat.lt_of_not_le fun hn => ?_
        unfold World.cell? at h0
        simp [Addr.add] at h0
        rw [Array.getElem?_eq_none hn] at h0
        simp at h0
      · have hi' : i < len := by simpa using hi
        obtain ⟨_, k0, k1, k2, k3, k4⟩ := hq i hi'
        simp only [Go.WideShapes.add_plain] at k0 k1 k2 k3 k4
        simp only [List.getElem_map, List.getElem_range]
        exact ⟨k0, by rw [Nat.add_assoc]; exact k1, by rw [Nat.add_assoc]; exact k2, by rw [Nat.add_assoc]; exact k3, by rw [Nat.add_assoc]; exact k4⟩
end

end Go.Proofs.YtchhmojnoiephabGreatDoor
