import Derived.Test.YtchhmojnoiephabHubO
/- Plain mathematics: what Fair asks of the hub. -/
namespace Go.Proofs.Ytchhmojnoiephab

def shareG (t : List UInt8) : List UInt8 := 36 :: 115 :: 104 :: 97 :: 114 :: 101 :: 47 :: 103 :: 47 :: t
theorem part_share (t : List UInt8) : partS (shareG t) = ([103], t) := by
  rw [part_of (shareG t) [103] (47 :: t) rfl rfl rfl]; rfl
theorem seek_none (p : SubL → Bool) (L : List SubL) : ∀ i, (∀ s ∈ L, p s = false) → seekS p i L = i + L.length := by
  induction L with
  | nil => intro i _; rfl
  | cons s L ih =>
    intro i h
    simp only [seekS]
    rw [if_neg (by simp [h s (by simp)]), ih (i + 1) (fun x hx => h x (by simp [hx]))]
    simp; omega

def mkS (t : List UInt8) (i : Nat) : SubL := ⟨i, [103], t, false⟩
/-- the hub with the clients below c, each with the shared subscription -/
structure FJ (t : List UInt8) (H : HubL) (c : Nat) : Prop where
  subs : H.subs = (List.range c).map (mkS t)
  on : ∀ i, i < c → H.on i = true
theorem fj_zero (t : List UInt8) : FJ t hub0 0 := ⟨rfl, fun i h => by omega⟩
theorem fj_connect (H : HubL) (c : Nat) (hc : c < 6) : connectH H c = (0, comeH H c) := by unfold connectH; rw [if_pos (cliB_of c hc)]; simp
theorem fj_sub {t : List UInt8} {H : HubL} {c : Nat} (h : FJ t H c) (hc : c < 4) (ht : (filterR t).1 = 0) (hl : t.length + 9 ≤ 24) : subH (comeH H c) c (shareG t) = ((0, 0), addS (comeH H c) c (shareG t)) := by
  have hck : checkS (comeH H c) c (shareG t) = (0, 0) := by
    unfold checkS
    rw [if_pos (cliB_of c (by omega)), if_neg (by unfold shareG; simp; omega), part_share, if_neg (by simp [ht]), Int.toNat_natCast, if_pos (show (comeH H c).on c = true from updF_same _ _ _)]
  have hsk : seekN (comeH H c) c (shareG t) = c := by
    unfold seekN
    have h1 := seek_none (sameS c (partS (shareG t)).1 (partS (shareG t)).2) (comeH H c).subs 0 (fun s hs => by
      have hs' : s ∈ (List.range c).map (mkS t) := by rw [← h.subs]; exact hs
      obtain ⟨i, hi, rfl⟩ := List.mem_map.1 hs'
      have := List.mem_range.1 hi
      unfold sameS mkS
      have hne : ¬ i = c := by omega
      simp [hne])
    rw [h1, show (comeH H c).subs = H.subs from rfl, h.subs]; simp
  have hln : (comeH H c).subs.length = c := by rw [show (comeH H c).subs = H.subs from rfl, h.subs]; simp
  unfold subH
  rw [hck, if_neg (by simp), Int.toNat_natCast, hsk, hln, if_neg (by omega), if_neg (by omega), part_share, if_neg (by simp)]
theorem fj_next {t : List UInt8} {H : HubL} {c : Nat} (h : FJ t H c) : FJ t (addS (comeH H c) c (shareG t)) (c + 1) := by
  refine ⟨?_, fun i hi => ?_⟩
  · show H.subs ++ [newS c (shareG t)] = _
    rw [h.subs, List.range_succ, List.map_append]
    unfold newS
    rw [part_share]; rfl
  · show updF H.on c true i = true
    by_cases hic : i = c
    · subst hic; exact updF_same _ _ _
    · rw [updF_other _ _ hic]; exact h.on i (by omega)

/-- behind i rounds -/
def rotS (t : List UInt8) (k i j : Nat) : SubL := ⟨(i + j) % (k + 1), [103], t, decide (k + 1 ≤ i + j)⟩
structure FR (t : List UInt8) (k : Nat) (H : HubL) (i : Nat) : Prop where
  subs : H.subs = (List.range (k + 1)).map (rotS t k i)
  on : ∀ i, i < k + 1 → H.on i = true
theorem fr_zero {t : List UInt8} {k : Nat} {H : HubL} (h : FJ t H (k + 1)) : FR t k H 0 := by
  refine ⟨?_, h.on⟩
  rw [h.subs]
  refine List.map_congr_left fun j hj => ?_
  have := List.mem_range.1 hj
  unfold mkS rotS
  rw [Nat.zero_add, Nat.mod_eq_of_lt this]
  have : ¬ k + 1 ≤ j := by omega
  simp [this]

theorem turnGo_all {H : HubL} {g f : List UInt8} (L : List SubL) : ∀ i turn, turn ≠ H.subs.length → (∀ s ∈ L, s.had = true) → turnGo H g f i turn L = turn := by
  induction L with
  | nil => intro i turn _ _; rfl
  | cons s L ih =>
    intro i turn ht h
    simp only [turnGo]
    rw [if_neg ht, if_pos (h s (by simp))]
    split
    · exact ih _ _ ht (fun x hx => h x (by simp [hx]))
    · exact ih _ _ ht (fun x hx => h x (by simp [hx]))
theorem fr_turn {t : List UInt8} {k i : Nat} {H : HubL} (h : FR t k H i) : turnH H [103] t = 0 := by
  have hl : H.subs.length = k + 1 := by rw [h.subs]; simp
  have hc : H.subs = rotS t k i 0 :: (List.range k).map (fun j => rotS t k i (j + 1)) := by
    rw [h.subs, List.range_succ_eq_map, List.map_cons, List.map_map]; rfl
  unfold turnH
  rw [show turnGo H [103] t 0 H.subs.length H.subs = turnGo H [103] t 0 H.subs.length (rotS t k i 0 :: (List.range k).map (fun j => rotS t k i (j + 1))) from by rw [← hc]]
  simp only [turnGo]
  have hm : mateB H [103] t (rotS t k i 0) = true := by
    unfold mateB
    simp only [rotS, decide_true, Bool.true_and]
    exact h.on _ (Nat.mod_lt _ (by omega))
  rw [if_pos hm]
  split
  · rename_i hh
    have hi : k + 1 ≤ i := by simpa [rotS] using hh
    simp only [if_true]
    refine turnGo_all _ _ _ (by rw [hl]; omega) (fun s hs => ?_)
    obtain ⟨j, hj, rfl⟩ := List.mem_map.1 hs
    simp [rotS]; omega
  · rfl
theorem fr_take {t : List UInt8} {k i : Nat} {H : HubL} (h : FR t k H i) (hm : matchB t t = true) : (takeH H t).1 = [((i % (k + 1) : Nat) : Int)] ∧ FR t k (takeH H t).2 (i + 1) := by
  have hl : H.subs.length = k + 1 := by rw [h.subs]; simp
  have hat : ∀ j (hj : j < H.subs.length), H.subs[j] = rotS t k i j := fun j hj => by simp [h.subs]
  have hp : ∀ j (hj : j < H.subs.length), pickB H t j H.subs[j] = decide (0 = j) := fun j hj => by
    rw [hat j hj]
    have e1 : turnH H (rotS t k i j).grp (rotS t k i j).fil = 0 := fr_turn h
    have e2 : matchB (rotS t k i j).fil t = true := hm
    have e3 : (rotS t k i j).grp ≠ [] := by simp [rotS]
    unfold pickB
    simp [e1, e2, e3]
  have hT : ∀ n, n < k + 1 → pickT H t (n + 1) = ([((i % (k + 1) : Nat) : Int)], (List.range n).map (fun j => rotS t k i (j + 1)), [hadS (rotS t k i 0)]) := by
    intro n
    induction n with
    | zero =>
      intro _
      rw [pickT_yes H t 0 (by omega) (by rw [hp 0 (by omega)]; simp), hat 0 (by omega)]
      simp [pickT, rotS]
    | succ n ih =>
      intro hn
      rw [pickT_no H t (n + 1) (by omega) (by rw [hp (n + 1) (by omega)]; simp), ih (by omega), hat (n + 1) (by omega), List.range_succ, List.map_append]
      rfl
  have hk := hT k (by omega)
  refine ⟨?_, ?_, ?_⟩
  · show (pickT H t H.subs.length).1 = _
    rw [hl, hk]
  · show (pickT H t H.subs.length).2.1 ++ (pickT H t H.subs.length).2.2 = _
    rw [hl, hk, List.range_succ, List.map_append]
    congr 1
    · refine List.map_congr_left fun j _ => ?_
      unfold rotS
      rw [show i + (j + 1) = i + 1 + j from by omega]
    · simp only [List.map_cons, List.map_nil]
      congr 1
      unfold hadS rotS
      have h1 : (i + 1 + k) % (k + 1) = i % (k + 1) := by rw [show i + 1 + k = i + (k + 1) from by omega, Nat.add_mod_right]
      have h2 : k + 1 ≤ i + 1 + k := by omega
      rw [h1, decide_eq_true h2, Nat.add_zero]
  · exact h.on
theorem spTo_turn (m : MsgL) (w : Nat) (x : List Int × HubL) (hx : ∀ s ∈ x.2.subs, s.grp ≠ []) : ∀ n, spTo m [(w : Int)] x n = if w < n then (x.1 ++ [(w : Int)], delH x.2 w m) else x := by
  intro n
  induction n with
  | zero => rfl
  | succ n ih =>
    have hr : ∀ y : HubL, y.subs = x.2.subs → reachB y.subs n m.1 = false := by
      intro y hy
      unfold reachB
      rw [hy, List.any_eq_false]
      intro s hs
      unfold wantS
      simp [hx s hs]
    have e : ∀ y : List Int × HubL, y.2.subs = x.2.subs → spOne m [(w : Int)] n y = if (w : Int) = (n : Int) then spAdd m n y else y := by
      intro y hy
      unfold spOne
      rw [hr y.2 hy, if_neg (by simp)]
      rfl
    show spOne m [(w : Int)] n (spTo m [(w : Int)] x n) = _
    rw [ih]
    by_cases h1 : w < n
    · rw [if_pos h1, e _ (del_subs x.2 w m).1, if_neg (by omega), if_pos (show w < n + 1 by omega)]
    · rw [if_neg h1, e x rfl]
      by_cases h2 : w = n
      · subst h2
        rw [if_pos rfl, if_pos (show w < w + 1 by omega)]; rfl
      · rw [if_neg (by omega), if_neg (show ¬ w < n + 1 by omega)]
theorem fr_publish {t : List UInt8} {k i : Nat} {H : HubL} (h : FR t k H i) (hk : k ≤ 3) (hm : matchB t t = true) (ht : (topicR t).1 = 0) : ∃ H', pubH H t [120] false = (([((i % (k + 1) : Nat) : Int)], 0, 0), H') ∧ FR t k H' (i + 1) := by
  obtain ⟨h1, h2⟩ := fr_take h hm
  have hw : i % (k + 1) < 6 := Nat.lt_of_lt_of_le (Nat.mod_lt _ (by omega)) (by omega)
  have hs : spreadH H (t, [120]) = ([((i % (k + 1) : Nat) : Int)], delH (takeH H t).2 (i % (k + 1)) (t, [120])) := by
    unfold spreadH
    simp only
    rw [h1, spTo_turn _ _ _ (fun s hs => by
      have hs' : s ∈ (takeH H t).2.subs := hs
      rw [h2.subs] at hs'
      obtain ⟨j, _, rfl⟩ := List.mem_map.1 hs'
      simp [rotS]), if_pos hw]
    simp
  refine ⟨delH (takeH H t).2 (i % (k + 1)) (t, [120]), ?_, ?_⟩
  · unfold pubH
    rw [if_neg (by simp [ht]), if_neg (by simp), if_neg (by simp), hs]
  · obtain ⟨d1, d2, d3, d4⟩ := del_subs (takeH H t).2 (i % (k + 1)) (t, [120])
    exact ⟨d1.trans h2.subs, fun j hj => by rw [d3]; exact h2.on j hj⟩

/-- how often client c has had a message behind i rounds -/
def cntC (k i c : Nat) : Nat := if c ≤ k then (i + k - c) / (k + 1) else 0
theorem cnt_zero (k c : Nat) : cntC k 0 c = 0 := by
  unfold cntC
  split
  · rw [Nat.div_eq_of_lt (by omega)]
  · rfl
theorem cnt_next (k i c : Nat) (hk : k ≤ 3) : cntC k (i + 1) c = cntC k i c + (if i % (k + 1) = c then 1 else 0) := by
  unfold cntC
  match k, hk with
  | 0, _ => split <;> split <;> omega
  | 1, _ => split <;> split <;> omega
  | 2, _ => split <;> split <;> omega
  | 3, _ => split <;> split <;> omega
theorem cnt_fair (k i c d : Nat) (hk : k ≤ 3) (hc : c ≤ k) (hd : d ≤ k) : cntC k i c ≤ cntC k i d + 1 := by
  unfold cntC
  rw [if_pos hc, if_pos hd]
  match k, hk with
  | 0, _ => omega
  | 1, _ => omega
  | 2, _ => omega
  | 3, _ => omega

end Go.Proofs.Ytchhmojnoiephab
