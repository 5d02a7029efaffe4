import Derived.Test.YtchhmojnoiephabHubO
/- The program's hub, younger than a world: the calls as the laws meet them. -/
namespace Go.Proofs.Ytchhmojnoiephab
open Go.ChangeShapes Go.WideShapes Go.ChangeAt Go.RowKit
set_option linter.unusedVariables false

/-- the hub at p, all its blocks younger than w0, and nothing older is changed -/
def Sit (w0 wr : World) (p : Nat) (H : HubL) : Prop := ∃ S, HubAt wr p S H ∧ (∀ k, S k → w0.heap.size ≤ k) ∧ Below w0.heap.size w0 wr
theorem Sit.bel {w0 wr : World} {p : Nat} {H : HubL} (h : Sit w0 wr p H) : Below w0.heap.size w0 wr := by obtain ⟨_, _, _, h3⟩ := h; exact h3
theorem Sit.good {w0 wr : World} {p : Nat} {H : HubL} (h : Sit w0 wr p H) : goodH H := by obtain ⟨_, h1, _, _⟩ := h; exact h1.good
theorem Sit.on {w0 wr w2 : World} {p : Nat} {H : HubL} (h : Sit w0 wr p H) (hb : Below wr.heap.size wr w2) : Sit w0 w2 p H := by
  obtain ⟨S, h1, h2, h3⟩ := h
  exact ⟨S, h1.below hb, h2, h3.trans (hb.mono h3.size)⟩
theorem sit_next {w0 wr w' : World} {p : Nat} {S S' : Nat → Prop} {H' : HubL} (h2 : ∀ k, S k → w0.heap.size ≤ k) (h3 : Below w0.heap.size w0 wr) (h1 : HubAt w' p S' H') (hf : Fr S wr w' S') : Sit w0 w' p H' :=
  ⟨S', h1, fun k hk => by
    rcases hf.new k hk with h | h
    · exact h2 k h
    · exact Nat.le_trans h3.size h, hf.below h3 (Nat.le_refl _) h2⟩
theorem sit_new (w : World) : Calls Try.prog 13 #[] w fun e w' => e = .returned (.pointer (some ⟨w.heap.size, 0, none⟩)) ∧ Sit w w' w.heap.size hub0 :=
  (newHub_any w).mono fun e w' ⟨he, ⟨S, h1, h2⟩, hb⟩ => ⟨he, S, h1, fun k hk => by rw [h2 k hk]; exact Nat.le_refl _, hb⟩
theorem sit_newP (w : World) : Calls Try.prog 13 #[] w fun e w' => ∃ P, e = .returned (.pointer (some ⟨P, 0, none⟩)) ∧ Sit w w' P hub0 := (sit_new w).mono fun e w' ⟨he, hs⟩ => ⟨_, he, hs⟩
theorem sit_connect {w0 wr : World} {p : Nat} {H : HubL} (h : Sit w0 wr p H) (c a : Int) (H' : HubL) (hr : connectH H c = (a, H')) :
    Calls Try.prog 14 #[.pointer (some ⟨p, 0, none⟩), .int .i64 c] wr fun e w' => e = .returned (.int .i64 a) ∧ Sit w0 w' p H' := by
  obtain ⟨S, h1, h2, h3⟩ := h
  have := connect_any p S H c wr h1
  rw [hr] at this
  exact this.mono fun e w' ⟨he, S', x1, x2⟩ => ⟨he, sit_next h2 h3 x1 x2⟩
theorem sit_publish {w0 wr : World} {p : Nat} {H : HubL} (h : Sit w0 wr p H) (t q : ByteArray) (keep : Bool) (ht : t.size ≤ maxLen) (hq : q.size ≤ maxLen) (l : List Int) (a b : Int) (H' : HubL) (hr : pubH H t.data.toList q.data.toList keep = ((l, a, b), H')) :
    Calls Try.prog 7 #[.pointer (some ⟨p, 0, none⟩), .string t, .string q, .bool keep] wr fun e w' => ∃ v, e = .returned (.tuple #[v, .int .i64 a, .int .i64 b]) ∧ w'.ownsRow wr.heap.size 3 1 v l.length (l.map (Value.int .i64)) ∧ Sit w0 w' p H' := by
  obtain ⟨S, h1, h2, h3⟩ := h
  have := publish_any p S H t q keep ht hq wr h1
  rw [hr] at this
  exact this.mono fun e w' ⟨v, S', he, hv, hn, x1, x2⟩ => ⟨v, he, hv, sit_next h2 h3 x1 x2⟩
theorem sit_subscribe {w0 wr : World} {p : Nat} {H : HubL} (h : Sit w0 wr p H) (c : Int) (s : ByteArray) (hs : s.size ≤ maxLen) (a b : Int) (H' : HubL) (hr : subH H c s.data.toList = ((a, b), H')) :
    Calls Try.prog 15 #[.pointer (some ⟨p, 0, none⟩), .int .i64 c, .string s] wr fun e w' => e = .returned (.tuple #[.int .i64 a, .int .i64 b]) ∧ Sit w0 w' p H' := by
  obtain ⟨S, h1, h2, h3⟩ := h
  have := subscribe_any p S H c s hs wr h1
  rw [hr] at this
  exact this.mono fun e w' ⟨he, S', x1, x2⟩ => ⟨he, sit_next h2 h3 x1 x2⟩
theorem sit_take {w0 wr : World} {p : Nat} {H : HubL} (h : Sit w0 wr p H) (c : Int) (l : List UInt8) (a : Int) (H' : HubL) (hr : takeQ H c = ((l, a), H')) :
    Calls Try.prog 11 #[.pointer (some ⟨p, 0, none⟩), .int .i64 c] wr fun e w' => ∃ s : ByteArray, e = .returned (.tuple #[.string s, .int .i64 a]) ∧ s.data.toList = l ∧ Sit w0 w' p H' := by
  obtain ⟨S, h1, h2, h3⟩ := h
  have := take_any p S H c wr h1
  rw [hr] at this
  exact this.mono fun e w' ⟨s, S', he, hs, x1, x2⟩ => ⟨s, he, hs, sit_next h2 h3 x1 x2⟩

end Go.Proofs.Ytchhmojnoiephab
