import Derived.Test.YtchhmojnoiephabPlayed
/- What Once asks of the hub: how often a message is delivered. -/
namespace Go.Proofs.Ytchhmojnoiephab
open Go.ChangeShapes Go.WideShapes Go.ChangeAt Go.RowKit
set_option linter.unusedVariables false

def addN (m : MsgL) (q : List MsgL) : Nat → List MsgL
  | 0 => q
  | k + 1 => if (addN m q k).length < 3 then addN m q k ++ [m] else addN m q k
theorem addN_nil (m : MsgL) (k : Nat) : addN m [] k = List.replicate (min k 3) m := by
  induction k with
  | zero => rfl
  | succ k ih =>
    simp only [addN]
    rw [ih]
    by_cases h : k < 3
    · rw [if_pos (by simp; omega), show min (k + 1) 3 = min k 3 + 1 from by omega, List.replicate_succ']
    · rw [if_neg (by simp; omega), show min (k + 1) 3 = min k 3 from by omega]
structure SpI (m : MsgL) (H0 : HubL) (x : List Int × HubL) : Prop where
  q : ∀ c : Nat, x.2.q c = addN m (H0.q c) (x.1.count (c : Int))
  on : x.2.on = H0.on
theorem spi_add {m : MsgL} {H0 : HubL} {x : List Int × HubL} (h : SpI m H0 x) (n : Nat) : SpI m H0 (spAdd m n x) := by
  refine ⟨fun c => ?_, (del_subs x.2 n m).2.2.1.trans h.on⟩
  show (delH x.2 n m).q c = addN m (H0.q c) ((x.1 ++ [(n : Int)]).count (c : Int))
  rw [List.count_append]
  by_cases hc : c = n
  · subst hc
    rw [show List.count (c : Int) [(c : Int)] = 1 from by simp]
    simp only [addN]
    rw [← h.q c]
    unfold delH
    split
    · show updF x.2.q c _ c = _
      rw [updF_same]
    · rfl
  · have hz : List.count (c : Int) [(n : Int)] = 0 := by
      rw [List.count_singleton]
      have : ¬ (n : Int) = (c : Int) := by omega
      simp [this]
    rw [hz, Nat.add_zero, ← h.q c]
    unfold delH
    split
    · show updF x.2.q n _ c = _
      rw [updF_other _ _ hc]
    · rfl
theorem spi_turn {m : MsgL} {H0 : HubL} (n : Nat) (T : List Int) : ∀ {x : List Int × HubL}, SpI m H0 x → SpI m H0 (spTurn m n x T) := by
  induction T with
  | nil => intro x h; exact h
  | cons o T ih =>
    intro x h
    simp only [spTurn]
    refine ih ?_
    split
    · exact spi_add h n
    · exact h
theorem spi_to {m : MsgL} {H0 : HubL} (T : List Int) {x : List Int × HubL} (h : SpI m H0 x) : ∀ n, SpI m H0 (spTo m T x n) := by
  intro n
  induction n with
  | zero => exact h
  | succ n ih =>
    simp only [spTo, spOne]
    refine spi_turn n T ?_
    split
    · exact spi_add ih n
    · exact ih
theorem spi_spread (H : HubL) (m : MsgL) : SpI m H (spreadH H m) := by
  have h0 : SpI m H (([] : List Int), (takeH H m.1).2) := ⟨fun c => rfl, rfl⟩
  exact spi_to _ h0 6

/-- the clients from c on have what was published, and nothing else -/
def hadTo (l : List Int) (m : MsgL) (on : Nat → Bool) (H : HubL) (c : Nat) : Prop := H.on = on ∧ ∀ d, c ≤ d → d < 6 → on d = true → H.q d = List.replicate (min (l.count (d : Int)) 3) m
theorem had_start {H : HubL} (m : MsgL) (he : emptyTo H 6) : hadTo (spreadH H m).1 m H.on (spreadH H m).2 0 := by
  have h := spi_spread H m
  exact ⟨h.on, fun d _ hd ho => by rw [h.q d, he d hd ho, addN_nil]⟩
theorem had_take {l : List Int} {m : MsgL} {on : Nat → Bool} {H : HubL} {c : Nat} (hc : c < 6) (h : hadTo l m on H (c + 1)) : hadTo l m on (takeQ H c).2 (c + 1) := by
  obtain ⟨t1, t2, _⟩ := takeQ_inv H c hc
  exact ⟨t1.trans h.1, fun d hd h6 ho => by rw [t2 d (by omega)]; exact h.2 d hd h6 ho⟩
theorem take_away {H : HubL} {c : Nat} (hc : c < 6) (ho : H.on c = false) : takeQ H c = (([], 9), H) := by
  unfold takeQ; rw [if_pos (cliB_of c hc), Int.toNat_natCast, if_neg (by simp [ho])]
theorem take_none {H : HubL} {c : Nat} (hc : c < 6) (ho : H.on c = true) (hq : H.q c = []) : takeQ H c = (([], 6), H) := by
  unfold takeQ; rw [if_pos (cliB_of c hc), Int.toNat_natCast, if_pos ho, hq]
theorem take_some {H : HubL} {c : Nat} {m : MsgL} {r : List MsgL} (hc : c < 6) (ho : H.on c = true) (hq : H.q c = m :: r) : takeQ H c = ((m.1 ++ 61 :: m.2, 0), { H with q := updF H.q c r }) := by
  unfold takeQ; rw [if_pos (cliB_of c hc), Int.toNat_natCast, if_pos ho, hq]

set_option maxHeartbeats 1000000 in
theorem count_any (v : Value) (xs : List Int) (q : Int) (w : World) (h : IntsAt w v xs) :
    Calls Try.prog 10 #[v, .int .i64 q] w fun e w' => e = .returned (.int .i64 ((xs.count q : Nat) : Int)) ∧ w' = w := by
  obtain ⟨a, c, rfl, hl⟩ := h.form
  unfold maxLen at hl
  have HI := hide h
  clear h
  go_enter Try.func10, Try.ntmps10
  go_wp2_with fail
  go_loopg [5, 6] xs.length (fun gk nn ii wr => ∃ k : Nat, k ≤ xs.length ∧ gk = xs.length - k ∧ ii = .int .i64 k ∧ nn = .int .i64 (((xs.take k).count q : Nat) : Int) ∧ wr = w)
  case atStart => exact ⟨0, by omega, by omega, rfl, by simp, rfl⟩
  case round =>
    obtain ⟨k, hk, rfl, rfl, rfl, hwr⟩ := hrel
    have hwr' := hwr.symm
    subst hwr'
    clear hwr
    have hcl := List.count_le_length (a := q) (l := xs.take k)
    rw [List.length_take] at hcl
    by_cases hlt : k < xs.length
    · rcases unhide HI with ⟨_, h0⟩ | ⟨b, off, cap, he, h1, h2, h3⟩
      · subst h0; simp at hlt
      · simp only [Value.slice.injEq] at he
        obtain ⟨rfl, _, rfl⟩ := he
        unfold maxLen at h2
        have e1 := h3 k hlt
        have HC : Hid ((xs.take (k + 1)).count q = (xs.take k).count q + (if xs[k] = q then 1 else 0)) := by
          unfold Hid
          rw [List.take_succ_eq_append_getElem hlt, List.count_append, List.count_singleton]
          by_cases hx : xs[k] = q <;> simp [hx]
        have hw1 : IntKind.i64.wrap ((((xs.take k).count q : Nat) : Int) + 1) = (((xs.take k).count q : Nat) : Int) + 1 := by rw [IntKind.wrap_i64]; omega
        clear h3
        generalize xs[k] = x at *
        generalize (xs.take k).count q = cn at *
        by_cases hx : x = q
        · rw [if_pos hx] at HC
          have hb : (x == q) = true := by simp [hx]
          clear hx
          go_wp2_with fail
          go_roundg (xs.length - (k + 1))
          case measure => omega
          case rel => exact ⟨k + 1, by omega, rfl, by go_num, by rw [unhide HC]; rfl, rfl⟩
        · rw [if_neg hx] at HC
          have hb : (x == q) = false := by simp [hx]
          clear hx
          go_wp2_with fail
          go_roundg (xs.length - (k + 1))
          case measure => omega
          case rel => exact ⟨k + 1, by omega, rfl, by go_num, by rw [unhide HC]; rfl, rfl⟩
    · have hke : xs.take k = xs := List.take_of_length_le (by omega)
      go_wp2_with fail
      go_ret
      exact ⟨by rw [hke]; rfl, rfl⟩

/-- the hub, and a list of numbers beside it -/
structure LSit (w0 wr : World) (p : Nat) (H : HubL) (v : Value) (l : List Int) : Prop where
  hub : ∃ S, HubAt wr p S H ∧ (∀ k, S k → w0.heap.size ≤ k) ∧ ∀ k, v.ownBlock = some k → ¬ S k
  row : wr.ownsRow 0 3 1 v l.length (l.map (Value.int .i64))
  bel : Below w0.heap.size w0 wr
theorem ls_publish {w0 wr : World} {p : Nat} {H : HubL} (h : Sit w0 wr p H) (t q : ByteArray) (keep : Bool) (ht : t.size ≤ maxLen) (hq : q.size ≤ maxLen) (l : List Int) (a b : Int) (H' : HubL) (hr : pubH H t.data.toList q.data.toList keep = ((l, a, b), H')) :
    Calls Try.prog 7 #[.pointer (some ⟨p, 0, none⟩), .string t, .string q, .bool keep] wr fun e w' => ∃ v, e = .returned (.tuple #[v, .int .i64 a, .int .i64 b]) ∧ LSit w0 w' p H' v l := by
  obtain ⟨S, h1, h2, h3⟩ := h
  have := publish_any p S H t q keep ht hq wr h1
  rw [hr] at this
  refine this.mono fun e w' ⟨v, S', he, hv, hn, x1, x2⟩ => ?_
  obtain ⟨S2, y1, y2, y3⟩ := sit_next h2 h3 x1 x2
  exact ⟨v, he, ⟨S', x1, fun k hk => by
    rcases x2.new k hk with z | z
    · exact h2 k z
    · exact Nat.le_trans h3.size z, hn⟩, own_mono hv (Nat.zero_le _), y3⟩
theorem ls_take {w0 wr : World} {p : Nat} {H : HubL} {v : Value} {l : List Int} (h : LSit w0 wr p H v l) (c : Int) (s : List UInt8) (a : Int) (H' : HubL) (hr : takeQ H c = ((s, a), H')) :
    Calls Try.prog 11 #[.pointer (some ⟨p, 0, none⟩), .int .i64 c] wr fun e w' => ∃ b : ByteArray, e = .returned (.tuple #[.string b, .int .i64 a]) ∧ b.data.toList = s ∧ LSit w0 w' p H' v l := by
  obtain ⟨S, h1, h2, h3⟩ := h.hub
  have := take_any p S H c wr h1
  rw [hr] at this
  refine this.mono fun e w' ⟨b, S', he, hs, x1, x2⟩ => ⟨b, he, hs, ⟨S', x1, fun k hk => ?_, fun k hk hs' => ?_⟩, own_same h.row (fun k hk => x2.keep k (h.row.lt k hk).2 (h3 k hk)), x2.below h.bel (Nat.le_refl _) h2⟩
  · rcases x2.new k hk with z | z
    · exact h2 k z
    · exact Nat.le_trans h.bel.size z
  · rcases x2.new k hs' with z | z
    · exact h3 k hk z
    · have := (h.row.lt k hk).2; omega

end Go.Proofs.Ytchhmojnoiephab
