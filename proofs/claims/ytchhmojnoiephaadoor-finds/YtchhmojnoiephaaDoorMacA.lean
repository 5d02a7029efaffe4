import Derived.Test.YtchhmojnoiephaaDoorWalkF
import Derived.Test.YtchhmojnoiephaaDoorWalkD
import Derived.Test.YtchhmojnoiephaaDoorPureQ
/- The program's threads in memory: what is left of them, whether they stay, those that live on, who has arrived. -/
namespace Go.Proofs.YtchhmojnoiephaaDoor
open Go.ChangeShapes Go.WideShapes Go.ChangeAt Go.RowKit
set_option linter.unusedVariables false

/-- a thread of the program: the filter, where it goes on, who -/
abbrev ThrC := List UInt8 × Nat × Int
def absT (c : ThrC) : Thr := (levsFrom c.1 c.2.1, c.2.2)
def okC (c : ThrC) : Prop := c.1.length ≤ 24 ∧ c.2.1 ≤ 25
def thrCells (T : List ThrC) : List Value := T.flatMap fun c => [strV c.1, .int .i64 (c.2.1 : Int), .int .i64 c.2.2]

theorem thrCells_len (T : List ThrC) : (thrCells T).length = T.length * 3 := by
  induction T with
  | nil => rfl
  | cons e T ih => simp [thrCells] at ih ⊢; omega
theorem thrCells_snoc (T : List ThrC) (c : ThrC) : thrCells (T ++ [c]) = thrCells T ++ [strV c.1, .int .i64 (c.2.1 : Int), .int .i64 c.2.2] := by simp [thrCells]
theorem thrCells_at (T : List ThrC) (k : Nat) (h : k < T.length) : (thrCells T)[k * 3]? = some (strV T[k].1) ∧ (thrCells T)[k * 3 + 1]? = some (.int .i64 (T[k].2.1 : Int)) ∧ (thrCells T)[k * 3 + 2]? = some (.int .i64 T[k].2.2) := by
  induction T generalizing k with
  | nil => simp at h
  | cons e E ih =>
    cases k with
    | zero => simp [thrCells]
    | succ k =>
      have := ih k (by simpa using h)
      have e1 : thrCells (e :: E) = strV e.1 :: .int .i64 (e.2.1 : Int) :: .int .i64 e.2.2 :: thrCells E := by simp [thrCells]
      rw [e1, show (k + 1) * 3 = k * 3 + 1 + 1 + 1 from by omega, show k * 3 + 1 + 1 + 1 + 1 = (k * 3 + 1) + 1 + 1 + 1 from by omega, show k * 3 + 1 + 1 + 1 + 2 = (k * 3 + 2) + 1 + 1 + 1 from by omega]
      simpa only [List.getElem?_cons_succ, List.getElem_cons_succ] using this

theorem add_at3 (g i : Nat) : (⟨g, 0, none⟩ : Addr).add i = ⟨g, i, none⟩ := by
  cases i with
  | zero => simp [Addr.add]
  | succ m => simp [Addr.add]

theorem own_thr {w : World} {B e g n cap k : Nat} {T : List ThrC} (h : w.ownsRow B e 3 (.slice (some ⟨g, 0, none⟩) n cap) n (thrCells T)) (hk : k < T.length) :
    w.cell? ⟨g, k * 3, none⟩ = some (.string ⟨T[k].1.toArray⟩) ∧ w.cell? ⟨g, k * 3 + 1, none⟩ = some (.int .i64 (T[k].2.1 : Int)) ∧ w.cell? ⟨g, k * 3 + 2, none⟩ = some (.int .i64 T[k].2.2) := by
  obtain ⟨a1, a2, a3⟩ := thrCells_at T k hk
  have c1 := h.cells (g := g) rfl _ _ a1
  have c2 := h.cells (g := g) rfl _ _ a2
  have c3 := h.cells (g := g) rfl _ _ a3
  rw [add_at3] at c1 c2 c3
  exact ⟨c1, c2, c3⟩

def headR : List (List UInt8) → List UInt8
  | [] => []
  | l :: _ => l
def leftB : List (List UInt8) → Bool
  | [] => false
  | _ :: _ => true

theorem arr_size (l : List UInt8) : (⟨l.toArray⟩ : ByteArray).size = l.length := by rw [Lib.size_eq]

set_option maxHeartbeats 1000000 in
theorem leftLevel_any (c : ThrC) (hc : okC c) (w : World) :
    Calls Tryd.prog 72 #[.agg #[strV c.1, .int .i64 (c.2.1 : Int), .int .i64 c.2.2]] w fun e w' => e = .returned (.tuple #[strV (headR (absT c).1), .bool (leftB (absT c).1)]) ∧ Below w.heap.size w w' := by
  obtain ⟨f, st, who⟩ := c
  obtain ⟨h1, h2⟩ := hc
  simp only at h1 h2
  unfold absT strV
  simp only
  have hsz : (⟨f.toArray⟩ : ByteArray).size = f.length := arr_size f
  have hdl : (⟨f.toArray⟩ : ByteArray).data.toList = f := by simp
  by_cases hst : st ≤ f.length
  · have HR := hide (levsFrom_step f st hst)
    have HLE := hide (levelEnd_any (⟨f.toArray⟩ : ByteArray) st)
    rw [hdl] at HLE
    have hr := runLen_le (f.drop st)
    rw [List.length_drop] at hr
    have HX : Hid ((⟨f.toArray⟩ : ByteArray).extract st (st + runLen (f.drop st)) = ⟨((f.drop st).take (runLen (f.drop st))).toArray⟩) := by
      unfold Hid
      rw [Lib.extract_eq, hdl]; congr 2; congr 1; omega
    generalize (⟨f.toArray⟩ : ByteArray) = s at *
    generalize runLen (f.drop st) = m at *
    have hg : ¬ (s.size : Int) < (st : Int) := by omega
    have hms : st + m ≤ s.size := by omega
    go_enter Tryd.func72, Tryd.ntmps72
    go_wp2_with fail
    refine (unhide HLE _ (by unfold maxLen; omega) (by omega)).mono ?_
    rintro e w1 ⟨rfl, rfl⟩
    go_wp2_with fail
    go_ret2
    refine ⟨?_, (Below.refl _ w).alloc (Nat.le_refl _) _⟩
    rw [unhide HR]
    simp only [headR, leftB]
    rw [← unhide HX]
    rfl
  · have HR := hide (levsFrom_behind f st hst)
    generalize (⟨f.toArray⟩ : ByteArray) = s at *
    have hg : (s.size : Int) < (st : Int) := by omega
    go_enter Tryd.func72, Tryd.ntmps72
    go_wp2_with fail
    go_ret2
    refine ⟨?_, (Below.refl _ w).alloc (Nat.le_refl _) _⟩
    rw [unhide HR]; rfl

theorem eq_str (l : List UInt8) (k : UInt8) : ((⟨l.toArray⟩ : ByteArray).toList == [k]) = (l == [k]) := by
  rw [Lib.toList_data]
theorem eq_strs (l m : List UInt8) : ((⟨l.toArray⟩ : ByteArray).toList == m) = (l == m) := by
  rw [Lib.toList_data]

theorem stay_form' (t : Thr) : stayB t = (leftB t.1 && headR t.1 == [35]) := by
  obtain ⟨r, q⟩ := t
  cases r <;> rfl
theorem arr_form (t : Thr) : arrB t = (!leftB t.1 || headR t.1 == [35]) := by
  obtain ⟨r, q⟩ := t
  cases r with
  | nil => rfl
  | cons l r => simp [arrB, leftB, headR]

set_option maxHeartbeats 1000000 in
theorem stays_any (c : ThrC) (hc : okC c) (w : World) :
    Calls Tryd.prog 81 #[.agg #[strV c.1, .int .i64 (c.2.1 : Int), .int .i64 c.2.2]] w fun e w' => e = .returned (.bool (stayB (absT c))) ∧ Below w.heap.size w w' := by
  have HL := hide (leftLevel_any c hc)
  have HS := hide (stay_form' (absT c))
  unfold strV at *
  have hs := eq_str (headR (absT c).1) 35
  generalize (⟨(headR (absT c).1).toArray⟩ : ByteArray) = lv at *
  generalize (headR (absT c).1 == [35]) = b35 at *
  generalize leftB (absT c).1 = lb at *
  generalize (⟨c.1.toArray⟩ : ByteArray) = fs at *
  cases lb
  · go_enter Tryd.func81, Tryd.ntmps81
    go_wp2_with fail
    refine (unhide HL _).mono ?_
    rintro e w1 ⟨rfl, hb⟩
    go_wp2_with fail
    go_ret
    exact ⟨ret_bool (by rw [unhide HS]; simp), ((Below.refl _ w).alloc (Nat.le_refl _) _).trans (hb.mono (by simp))⟩
  · go_enter Tryd.func81, Tryd.ntmps81
    go_wp2_with fail
    refine (unhide HL _).mono ?_
    rintro e w1 ⟨rfl, hb⟩
    go_wp2_with fail
    go_ret
    exact ⟨ret_bool (by rw [unhide HS]; simp), ((Below.refl _ w).alloc (Nat.le_refl _) _).trans (hb.mono (by simp))⟩

end Go.Proofs.YtchhmojnoiephaaDoor
