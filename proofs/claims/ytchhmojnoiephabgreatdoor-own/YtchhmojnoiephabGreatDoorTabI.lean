import Derived.Test.YtchhmojnoiephabGreatDoorFrA
import Derived.Test.YtchhmojnoiephabGreatDoorScript
/- What the laws ask of the program's table. -/
namespace Go.Proofs.YtchhmojnoiephabGreatDoor
open Go.ChangeShapes Go.WideShapes Go.ChangeAt Go.RowKit
set_option linter.unusedVariables false

/-- a list of the world's, its block none of S -/
def Own (w : World) (S : Nat → Prop) (v : Value) (xs : List Int) : Prop := IntsAt w v xs ∧ ∀ b off n c, v = .slice (some ⟨b, off, none⟩) n c → ¬ S b ∧ b < w.heap.size

/-- what the laws ask of the program's table: a predicate on memory, and the calls' contracts in the document's own functions -/
structure HubTabI where
  tab : World → Nat → (Nat → Prop) → List PairL → Prop
  lt : ∀ {w p S L k}, tab w p S L → S k → k < w.heap.size
  kept : ∀ {w w' p S L T T'}, tab w p S L → Fr T w w' T' → (∀ k, S k → ¬ T k) → tab w' p S L
  new : ∀ w, Calls Tryz.prog 7 #[] w fun e w' => ∃ p S, e = .returned (.pointer (some ⟨p, 0, none⟩)) ∧ tab w' p S [] ∧ Below w.heap.size w w' ∧ ∀ k, S k → w.heap.size ≤ k
  add : ∀ p S L (f : ByteArray) (who : Int) w, tab w p S L → f.size ≤ maxLen → Calls Tryz.prog 38 #[.pointer (some ⟨p, 0, none⟩), .string f, .int .i64 who] w fun e w' =>
    e = .returned (.tuple #[.int .i64 (addR L f.data.toList who).1.1, .int .i64 (addR L f.data.toList who).1.2]) ∧ ∃ S', tab w' p S' (addR L f.data.toList who).2 ∧ Fr S w w' S'
  drop : ∀ p S L (f : ByteArray) (who : Int) w, tab w p S L → f.size ≤ maxLen → Calls Tryz.prog 40 #[.pointer (some ⟨p, 0, none⟩), .string f, .int .i64 who] w fun e w' =>
    e = .returned (.tuple #[.int .i64 (dropR L f.data.toList who).1.1, .int .i64 (dropR L f.data.toList who).1.2]) ∧ ∃ S', tab w' p S' (dropR L f.data.toList who).2 ∧ Fr S w w' S'
  route : ∀ p S L (t : ByteArray) w, tab w p S L → t.size ≤ maxLen → Calls Tryz.prog 17 #[.pointer (some ⟨p, 0, none⟩), .string t] w fun e w' =>
    ∃ v S', e = .returned (.tuple #[v, .int .i64 (routeR L t.data.toList).2.1, .int .i64 (routeR L t.data.toList).2.2]) ∧ Own w' S' v (routeR L t.data.toList).1 ∧ tab w' p S' L ∧ Fr S w w' S'

theorem Fr.cell {S S' : Nat → Prop} {w w' : World} (h : Fr S w w' S') {b off : Nat} {v : Value} (hc : w.cell? ⟨b, off, none⟩ = some v) (hn : ¬ S b) : w'.cell? ⟨b, off, none⟩ = some v := by
  have hb := blk_lt hc
  rw [← hc]; exact World.cell?_of_block (w := w) (a := ⟨b, off, none⟩) (h.keep b hb hn)
theorem Fr.alloc {S : Nat → Prop} (w : World) (o : Obj) : Fr S w (w.alloc o) S := Fr.of_below ((Below.refl _ w).alloc (Nat.le_refl _) o)
theorem Fr.drewN {S S' : Nat → Prop} {w w' : World} (h : Fr S w w' S') (n : Nat) : Fr S w (w'.drewN n) S' := ⟨h.os, h.tape, h.output, h.size, h.keep, h.new⟩
/-- two calls behind one another, each on its own object -/
theorem Fr.join {S S' D D' : Nat → Prop} {w w1 w2 : World} (h : Fr S w w1 S') (k : Fr D w1 w2 D') : Fr (fun b => S b ∨ D b) w w2 (fun b => S' b ∨ D' b) :=
  ⟨k.os.trans h.os, k.tape.trans h.tape, k.output.trans h.output, Nat.le_trans h.size k.size,
   fun j hj hn => (k.keep j (Nat.lt_of_lt_of_le hj h.size) (fun hs => hn (Or.inr hs))).trans (h.keep j hj (fun hs => hn (Or.inl hs))),
   fun j hj => by
    rcases hj with hj | hj
    · rcases h.new j hj with h1 | h1
      · exact Or.inl (Or.inl h1)
      · exact Or.inr h1
    · rcases k.new j hj with h1 | h1
      · exact Or.inl (Or.inr h1)
      · exact Or.inr (Nat.le_trans h.size h1)⟩

def opAgg (o : OpV) : Value := .agg #[.int .i64 o.kind, .int .i64 o.a, .int .i64 o.b, .string o.s, .string o.t]

theorem fr_wide {S S' : Nat → Prop} {w w' : World} (h : Fr S w w' S') {T T' : Nat → Prop} (h1 : ∀ k, S k → T k) (h2 : ∀ k, T' k → S' k ∨ T k) : Fr T w w' T' :=
  ⟨h.os, h.tape, h.output, h.size, fun k hk hn => h.keep k hk (fun hs => hn (h1 k hs)), fun k hk => by
    rcases h2 k hk with h3 | h3
    · rcases h.new k h3 with h4 | h4
      · exact Or.inl (h1 k h4)
      · exact Or.inr h4
    · exact Or.inl h3⟩

abbrev ptrV (p : Nat) : Value := .pointer (some ⟨p, 0, none⟩)

theorem Fr.below {S S' : Nat → Prop} {B : Nat} {w0 w w' : World} (h : Fr S w w' S') (hb : Below B w0 w) (hB : B ≤ w0.heap.size) (hS : ∀ k, S k → B ≤ k) : Below B w0 w' :=
  ⟨h.os.trans hb.os, h.tape.trans hb.tape, h.output.trans hb.output, Nat.le_trans hb.size h.size, fun k hk => by
    have := hb.size
    rw [h.keep k (by omega) (fun hs => by have := hS k hs; omega)]; exact hb.block k hk⟩

end Go.Proofs.YtchhmojnoiephabGreatDoor
