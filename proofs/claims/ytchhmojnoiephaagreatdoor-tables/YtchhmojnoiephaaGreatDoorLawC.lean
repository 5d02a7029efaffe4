import Derived.Test.YtchhmojnoiephaaGreatDoorLawB
namespace Go.Proofs.YtchhmojnoiephaaGreatDoor
open Go.ChangeShapes Go.WideShapes Go.ChangeAt Go.RowKit
set_option linter.unusedVariables false

/-- two pairs of tables side by side, all of them younger than B -/
def TwoTabs (I : HubTabI) (B : Nat) (w0 wr : World) (P : Nat) : Prop :=
  ∃ p0 S0 d0 D0 L0 p1 S1 d1 D1 L1 h0 h1 g0 g1, PairAt wr P [ptrV p0, ptrV p1, h0, h1, ptrV d0, ptrV d1, g0, g1] ∧ Both I wr p0 S0 d0 D0 L0 ∧ Both I wr p1 S1 d1 D1 L1 ∧
    (∀ k, S0 k ∨ D0 k → ¬ (S1 k ∨ D1 k)) ∧ (∀ k, S0 k ∨ D0 k → k ≠ P ∧ B ≤ k) ∧ (∀ k, S1 k ∨ D1 k → k ≠ P ∧ B ≤ k) ∧ B ≤ P ∧ Below B w0 wr

theorem PairAt.kept {w w' : World} {P : Nat} {cs : List Value} {T T' : Nat → Prop} (h : PairAt w P cs) (hf : Fr T w w' T') (hP : ¬ T P) : PairAt w' P cs := by
  unfold PairAt at h ⊢
  rw [hf.keep P (heap_lt h) hP]; exact h

theorem TwoTabs.frame {I : HubTabI} {B : Nat} {w0 wr w' : World} {P : Nat} (h : TwoTabs I B w0 wr P) (hf : Fr (fun _ => False) wr w' (fun _ => False)) (hB : B ≤ w0.heap.size) : TwoTabs I B w0 w' P := by
  obtain ⟨p0, S0, d0, D0, L0, p1, S1, d1, D1, L1, h0, h1, g0, g1, hP, b0, b1, hd, hs0, hs1, hBP, hb⟩ := h
  exact ⟨p0, S0, d0, D0, L0, p1, S1, d1, D1, L1, h0, h1, g0, g1, hP.kept hf (fun h => h), b0.kept hf (fun _ _ h => h) (fun _ _ h => h), b1.kept hf (fun _ _ h => h) (fun _ _ h => h), hd, hs0, hs1, hBP, hf.below hb hB (fun _ h => h.elim)⟩

theorem fr_apart {I : HubTabI} {w w' : World} {p d : Nat} {S D T T' : Nat → Prop} {L : List PairL} (b : Both I w p S d D L) (hf : Fr T w w' T') (hd : ∀ k, S k ∨ D k → ¬ T k) : (∀ k, S k ∨ D k → ¬ T' k) := fun k hk ht => by
  rcases hf.new k ht with h | h
  · exact hd k hk h
  · rcases hk with hk | hk
    · have := I.lt b.hub hk; omega
    · have := b.ref.lt k hk; omega

theorem two_new0 {I : HubTabI} {B : Nat} {w0 wa w' : World} {P p1 d1 p d : Nat} {S1 D1 S D : Nat → Prop} {L1 : List PairL} {h0 h1 g0 g1 : Value} (b1 : Both I wa p1 S1 d1 D1 L1) (hs1 : ∀ k, S1 k ∨ D1 k → k ≠ P ∧ B ≤ k) (hBP : B ≤ P) (hPw : P < wa.heap.size) (hb : Below B w0 wa) (hB : B ≤ w0.heap.size)
    (hnew : Both I w' p S d D []) (hP : PairAt w' P [ptrV p, ptrV p1, h0, h1, ptrV d, ptrV d1, g0, g1]) (hf : Fr (fun k => k = P) wa w' (fun k => k = P)) (hS : ∀ k, S k ∨ D k → wa.heap.size ≤ k) : TwoTabs I B w0 w' P := by
  have hbs := hb.size
  refine ⟨p, S, d, D, [], p1, S1, d1, D1, L1, h0, h1, g0, g1, hP, hnew, b1.kept hf (fun k hk => (hs1 k (Or.inl hk)).1) (fun k hk => (hs1 k (Or.inr hk)).1), fun k hk hk1 => ?_, fun k hk => ?_, hs1, hBP, hf.below hb hB (fun k hk => by omega)⟩
  · have h1 := hS k hk
    rcases hk1 with hk1 | hk1
    · have := I.lt b1.hub hk1; omega
    · have := b1.ref.lt k hk1; omega
  · have h1 := hS k hk
    exact ⟨by omega, by omega⟩

theorem two_new1 {I : HubTabI} {B : Nat} {w0 wa w' : World} {P p0 d0 p d : Nat} {S0 D0 S D : Nat → Prop} {L0 : List PairL} {h0 h1 g0 g1 : Value} (b0 : Both I wa p0 S0 d0 D0 L0) (hs0 : ∀ k, S0 k ∨ D0 k → k ≠ P ∧ B ≤ k) (hBP : B ≤ P) (hPw : P < wa.heap.size) (hb : Below B w0 wa) (hB : B ≤ w0.heap.size)
    (hnew : Both I w' p S d D []) (hP : PairAt w' P [ptrV p0, ptrV p, h0, h1, ptrV d0, ptrV d, g0, g1]) (hf : Fr (fun k => k = P) wa w' (fun k => k = P)) (hS : ∀ k, S k ∨ D k → wa.heap.size ≤ k) : TwoTabs I B w0 w' P := by
  have hbs := hb.size
  refine ⟨p0, S0, d0, D0, L0, p, S, d, D, [], h0, h1, g0, g1, hP, b0.kept hf (fun k hk => (hs0 k (Or.inl hk)).1) (fun k hk => (hs0 k (Or.inr hk)).1), hnew, fun k hk hk1 => ?_, hs0, fun k hk => ?_, hBP, hf.below hb hB (fun k hk => by omega)⟩
  · have h1 := hS k hk1
    rcases hk with hk | hk
    · have := I.lt b0.hub hk; omega
    · have := b0.ref.lt k hk; omega
  · have h1 := hS k hk
    exact ⟨by omega, by omega⟩

theorem two_step0 {I : HubTabI} {B : Nat} {w0 wa w' : World} {P p0 d0 p1 d1 : Nat} {S0 D0 S1 D1 S' D' : Nat → Prop} {L0 L1 L' : List PairL} {h0 h1 g0 g1 : Value} (hP : PairAt wa P [ptrV p0, ptrV p1, h0, h1, ptrV d0, ptrV d1, g0, g1]) (b0 : Both I wa p0 S0 d0 D0 L0) (b1 : Both I wa p1 S1 d1 D1 L1)
    (hd : ∀ k, S0 k ∨ D0 k → ¬ (S1 k ∨ D1 k)) (hs0 : ∀ k, S0 k ∨ D0 k → k ≠ P ∧ B ≤ k) (hs1 : ∀ k, S1 k ∨ D1 k → k ≠ P ∧ B ≤ k) (hBP : B ≤ P) (hb : Below B w0 wa) (hB : B ≤ w0.heap.size)
    (hnew : Both I w' p0 S' d0 D' L') (hf : Fr (fun k => S0 k ∨ D0 k) wa w' (fun k => S' k ∨ D' k)) : TwoTabs I B w0 w' P := by
  have hbs := hb.size
  have hPw := heap_lt hP
  refine ⟨p0, S', d0, D', L', p1, S1, d1, D1, L1, h0, h1, g0, g1, hP.kept hf (fun h => (hs0 P h).1 rfl), hnew, b1.kept hf (fun k hk h => hd k h (Or.inl hk)) (fun k hk h => hd k h (Or.inr hk)), fun k hk hk1 => ?_, fun k hk => ?_, hs1, hBP, hf.below hb hB (fun k hk => (hs0 k hk).2)⟩
  · exact fr_apart b1 hf (fun k h1 h0 => hd k h0 h1) k hk1 hk
  · rcases hf.new k hk with h | h
    · exact hs0 k h
    · exact ⟨by omega, by omega⟩

theorem two_step1 {I : HubTabI} {B : Nat} {w0 wa w' : World} {P p0 d0 p1 d1 : Nat} {S0 D0 S1 D1 S' D' : Nat → Prop} {L0 L1 L' : List PairL} {h0 h1 g0 g1 : Value} (hP : PairAt wa P [ptrV p0, ptrV p1, h0, h1, ptrV d0, ptrV d1, g0, g1]) (b0 : Both I wa p0 S0 d0 D0 L0) (b1 : Both I wa p1 S1 d1 D1 L1)
    (hd : ∀ k, S0 k ∨ D0 k → ¬ (S1 k ∨ D1 k)) (hs0 : ∀ k, S0 k ∨ D0 k → k ≠ P ∧ B ≤ k) (hs1 : ∀ k, S1 k ∨ D1 k → k ≠ P ∧ B ≤ k) (hBP : B ≤ P) (hb : Below B w0 wa) (hB : B ≤ w0.heap.size)
    (hnew : Both I w' p1 S' d1 D' L') (hf : Fr (fun k => S1 k ∨ D1 k) wa w' (fun k => S' k ∨ D' k)) : TwoTabs I B w0 w' P := by
  have hbs := hb.size
  have hPw := heap_lt hP
  refine ⟨p0, S0, d0, D0, L0, p1, S', d1, D', L', h0, h1, g0, g1, hP.kept hf (fun h => (hs1 P h).1 rfl), b0.kept hf (fun k hk h => hd k (Or.inl hk) h) (fun k hk h => hd k (Or.inr hk) h), hnew, fun k hk hk1 => ?_, hs0, fun k hk => ?_, hBP, hf.below hb hB (fun k hk => (hs1 k hk).2)⟩
  · exact fr_apart b0 hf (fun k h0 h1 => hd k h0 h1) k hk hk1
  · rcases hf.new k hk with h | h
    · exact hs1 k h
    · exact ⟨by omega, by omega⟩

theorem and_one (b : Int) : bits BinOp.and IntKind.i64 b 1 = 0 ∨ bits BinOp.and IntKind.i64 b 1 = 1 := by
  unfold bits
  simp only [IntKind.bits]
  have h1 : (BitVec.ofInt 64 b &&& BitVec.ofInt 64 1).toNat = (BitVec.ofInt 64 b).toNat % 2 := by
    rw [BitVec.toNat_and, show (BitVec.ofInt 64 1).toNat = 1 from by decide, Nat.and_one_is_mod]
  show IntKind.i64.wrap ((BitVec.ofInt 64 b &&& BitVec.ofInt 64 1).toNat : Int) = 0 ∨ IntKind.i64.wrap ((BitVec.ofInt 64 b &&& BitVec.ofInt 64 1).toNat : Int) = 1
  rw [h1, IntKind.wrap_i64]
  omega

theorem fr_same {S : Nat → Prop} {w w' : World} (h1 : w'.os = w.os) (h2 : w'.tape = w.tape) (h3 : w'.output = w.output) (h4 : w'.heap = w.heap) : Fr S w w' S :=
  ⟨h1, h2, h3, by rw [h4]; exact Nat.le_refl _, fun k _ _ => by rw [h4], fun _ h => Or.inl h⟩

theorem two_hub {I : HubTabI} {w w2 w3 : World} {p0 p1 d0 d1 : Nat} {h0 h1 g0 g1 h0' h1' g0' g1' : Value} (h : TwoTabs I w.heap.size w w2 w.heap.size) (hP : PairAt w2 w.heap.size [ptrV p0, ptrV p1, h0, h1, ptrV d0, ptrV d1, g0, g1])
    (hP3 : PairAt w3 w.heap.size [ptrV p0, ptrV p1, h0', h1', ptrV d0, ptrV d1, g0', g1']) (hf : Fr (fun k => k = w.heap.size) w2 w3 (fun k => k = w.heap.size)) : TwoTabs I w.heap.size w w3 w.heap.size := by
  obtain ⟨q0, S0, e0, D0, L0, q1, S1, e1, D1, L1, z0, z1, z2, z3, hPr, b0, b1, hdd, hs0, hs1, hBP, hbr⟩ := h
  unfold PairAt at hP hPr
  rw [hP] at hPr
  simp [ptrV] at hPr
  obtain ⟨rfl, rfl, _, _, rfl, rfl, _, _⟩ := hPr
  exact ⟨p0, S0, d0, D0, L0, p1, S1, d1, D1, L1, h0', h1', g0', g1', hP3, b0.kept hf (fun k hk => (hs0 k (Or.inl hk)).1) (fun k hk => (hs0 k (Or.inr hk)).1), b1.kept hf (fun k hk => (hs1 k (Or.inl hk)).1) (fun k hk => (hs1 k (Or.inr hk)).1), hdd, hs0, hs1, hBP,
    hf.below hbr (Nat.le_refl _) (fun k hk => by omega)⟩

end Go.Proofs.YtchhmojnoiephaaGreatDoor
