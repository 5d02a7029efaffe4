import Derived.Test.YtchhmojnoiephabSit
import Derived.Test.YtchhmojnoiephabFairP
import Derived.Test.YtchhmojnoiephabWalkRb
import Derived.BigQuiet
namespace Go.Proofs.Ytchhmojnoiephab
open Go.ChangeShapes Go.WideShapes Go.ChangeAt Go.RowKit
set_option linter.unusedVariables false

theorem head_topicF (T : List UInt8) (h : (topicR T).1 = 0) : headI T ≠ 43 ∧ headI T ≠ 35 := by
  obtain ⟨c, hc, he⟩ := headI_mem T (topicR_len T h).2.1
  have := topic_chars T h c hc
  rw [he]; exact this
theorem self_listsF (T : List UInt8) (h : (topicR T).1 = 0) : matchB T T = true := by
  obtain ⟨h1, h2⟩ := head_topicF T h
  unfold matchB; rw [if_neg (by rintro ⟨_, h | h⟩; exact h1 h; exact h2 h)]; exact fits_self _
theorem and_mask (b : Int) (q : Nat) (hq : q ≤ 4) : ∃ k : Nat, k < 2 ^ q ∧ bits BinOp.and IntKind.i64 b ((2 ^ q - 1 : Nat) : Int) = (k : Int) := by
  refine ⟨(BitVec.ofInt 64 b).toNat % 2 ^ q, Nat.mod_lt _ (Nat.two_pow_pos q), ?_⟩
  have hq' : 2 ^ q ≤ 2 ^ 4 := Nat.pow_le_pow_right (by decide) hq
  have hp := Nat.two_pow_pos q
  unfold bits
  simp only [IntKind.bits]
  have h0 : (BitVec.ofInt 64 ((2 ^ q - 1 : Nat) : Int)).toNat = 2 ^ q - 1 := by
    rw [BitVec.ofInt_natCast, BitVec.toNat_ofNat, Nat.mod_eq_of_lt]
    have : (2 : Nat) ^ 4 ≤ 2 ^ 64 := by decide
    omega
  have h1 : (BitVec.ofInt 64 b &&& BitVec.ofInt 64 ((2 ^ q - 1 : Nat) : Int)).toNat = (BitVec.ofInt 64 b).toNat % 2 ^ q := by
    rw [BitVec.toNat_and, h0, Nat.and_two_pow_sub_one_eq_mod]
  show IntKind.i64.wrap ((BitVec.ofInt 64 b &&& BitVec.ofInt 64 ((2 ^ q - 1 : Nat) : Int)).toNat : Int) = _
  rw [h1, IntKind.wrap_i64]
  have h2 := Nat.mod_lt (BitVec.ofInt 64 b).toNat hp
  have h3 : (2 : Nat) ^ 4 = 16 := by decide
  omega

def hadG (k i : Nat) : List Int := (List.range 4).map (fun c => (cntC k i c : Int))
theorem hadG_len (k i : Nat) : (hadG k i).length = 4 := by unfold hadG; simp
theorem hadG_at (k i c : Nat) (h : c < (hadG k i).length) : (hadG k i)[c] = (cntC k i c : Int) := by simp [hadG]
theorem hadG_next (k i : Nat) (hk : k ≤ 3) : (hadG k i).set (i % (k + 1)) ((cntC k i (i % (k + 1)) : Int) + 1) = hadG k (i + 1) := by
  refine List.ext_getElem (by rw [List.length_set, hadG_len, hadG_len]) fun c h1 h2 => ?_
  rw [List.getElem_set, hadG_at, hadG_at, cnt_next k i c hk]
  split
  · rename_i h; subst h; simp
  · simp
theorem hadG_zero (k : Nat) : hadG k 0 = [0, 0, 0, 0] := by
  unfold hadG
  rw [show List.range 4 = [0, 1, 2, 3] from rfl]
  simp [cnt_zero]

structure FSit (w0 wr : World) (p : Nat) (H : HubL) (N : Nat) (g : List Int) : Prop where
  hub : ∃ S, HubAt wr p S H ∧ (∀ k, S k → w0.heap.size ≤ k) ∧ ¬ S N
  row : wr.ownsRow 0 3 1 (.slice (some ⟨N, 0, none⟩) 4 4) 4 (g.map (Value.int .i64))
  bel : Below w0.heap.size w0 wr
  ge : w0.heap.size ≤ N
theorem FSit.lt {w0 wr : World} {p : Nat} {H : HubL} {N : Nat} {g : List Int} (h : FSit w0 wr p H N g) : N < wr.heap.size := (h.row.lt N rfl).2
theorem FSit.step {w0 wr w' : World} {p : Nat} {H H' : HubL} {N : Nat} {g : List Int} (h : FSit w0 wr p H N g) {S S' : Nat → Prop} (hge : ∀ k, S k → w0.heap.size ≤ k) (hN : ¬ S N) (h1 : HubAt w' p S' H') (hf : Fr S wr w' S') : FSit w0 w' p H' N g := by
  have hlt := h.lt
  refine ⟨⟨S', h1, fun k hk => ?_, fun hs => ?_⟩, own_same h.row (fun k hk => ?_), hf.below h.bel (Nat.le_refl _) hge, h.ge⟩
  · rcases hf.new k hk with x | x
    · exact hge k x
    · exact Nat.le_trans h.bel.size x
  · rcases hf.new N hs with x | x
    · exact hN x
    · omega
  · simp [Value.ownBlock] at hk
    subst hk
    exact hf.keep _ hlt hN
theorem FSit.on {w0 wr w' : World} {p : Nat} {H : HubL} {N : Nat} {g : List Int} (h : FSit w0 wr p H N g) (hb : Below wr.heap.size wr w') : FSit w0 w' p H N g := by
  obtain ⟨S, h1, h2, h3⟩ := h.hub
  exact h.step h2 h3 (h1.below hb) (Fr.of_below hb)
theorem FSit.store {w0 wr : World} {p : Nat} {H : HubL} {N : Nat} {g : List Int} (h : FSit w0 wr p H N g) (i : Nat) (v : Int) : FSit w0 (wr.setCell ⟨N, i, none⟩ (.int .i64 v)) p H N (g.set i v) := by
  obtain ⟨S, h1, h2, h3⟩ := h.hub
  have hf : Fr (fun k => k = N) wr (wr.setCell ⟨N, i, none⟩ (.int .i64 v)) (fun k => k = N) := ⟨rfl, rfl, rfl, by simp, fun k _ hn => Below.heap_setCell _ _ _ _ hn, fun _ h => Or.inl h⟩
  refine ⟨⟨S, h1.kept hf (fun k hk e => h3 (by rw [← e]; exact hk)), h2, h3⟩, ?_, h.bel.setCell h.ge _, h.ge⟩
  rw [List.map_set]
  exact (h.row.stored i _).1
theorem fs_connect {w0 wr : World} {p : Nat} {H : HubL} {N : Nat} {g : List Int} (h : FSit w0 wr p H N g) (c a : Int) (H' : HubL) (hr : connectH H c = (a, H')) :
    Calls Try.prog 14 #[.pointer (some ⟨p, 0, none⟩), .int .i64 c] wr fun e w' => e = .returned (.int .i64 a) ∧ FSit w0 w' p H' N g := by
  obtain ⟨S, h1, h2, h3⟩ := h.hub
  have := connect_any p S H c wr h1
  rw [hr] at this
  exact this.mono fun e w' ⟨he, S', x1, x2⟩ => ⟨he, h.step h2 h3 x1 x2⟩
theorem fs_subscribe {w0 wr : World} {p : Nat} {H : HubL} {N : Nat} {g : List Int} (h : FSit w0 wr p H N g) (c : Int) (s : ByteArray) (hs : s.size ≤ maxLen) (a b : Int) (H' : HubL) (hr : subH H c s.data.toList = ((a, b), H')) :
    Calls Try.prog 15 #[.pointer (some ⟨p, 0, none⟩), .int .i64 c, .string s] wr fun e w' => e = .returned (.tuple #[.int .i64 a, .int .i64 b]) ∧ FSit w0 w' p H' N g := by
  obtain ⟨S, h1, h2, h3⟩ := h.hub
  have := subscribe_any p S H c s hs wr h1
  rw [hr] at this
  exact this.mono fun e w' ⟨he, S', x1, x2⟩ => ⟨he, h.step h2 h3 x1 x2⟩
theorem fs_publish {w0 wr : World} {p : Nat} {H : HubL} {N : Nat} {g : List Int} (h : FSit w0 wr p H N g) (t q : ByteArray) (keep : Bool) (ht : t.size ≤ maxLen) (hq : q.size ≤ maxLen) (l : List Int) (a b : Int) (H' : HubL) (hr : pubH H t.data.toList q.data.toList keep = ((l, a, b), H')) :
    Calls Try.prog 7 #[.pointer (some ⟨p, 0, none⟩), .string t, .string q, .bool keep] wr fun e w' => ∃ v, e = .returned (.tuple #[v, .int .i64 a, .int .i64 b]) ∧ w'.ownsRow wr.heap.size 3 1 v l.length (l.map (Value.int .i64)) ∧ FSit w0 w' p H' N g := by
  obtain ⟨S, h1, h2, h3⟩ := h.hub
  have := publish_any p S H t q keep ht hq wr h1
  rw [hr] at this
  exact this.mono fun e w' ⟨v, S', he, hv, hn, x1, x2⟩ => ⟨v, he, hv, h.step h2 h3 x1 x2⟩

theorem share_data (t : ByteArray) : ((⟨#[36, 115, 104, 97, 114, 101, 47, 103, 47]⟩ : ByteArray) ++ t).data.toList = shareG t.data.toList := by
  rw [ByteArray.data_append, Array.toList_append]; rfl
theorem share_size (t : ByteArray) : ((⟨#[36, 115, 104, 97, 114, 101, 47, 103, 47]⟩ : ByteArray) ++ t).size = t.size + 9 := by
  rw [ByteArray.size_append, Nat.add_comm]; rfl

set_option maxHeartbeats 8000000 in
set_option maxRecDepth 1000000 in
theorem fair_walk (w : World) (x0 : Int) (w0 : (Lit.int .i64 x0).wf = true) (x1 : Int) (w1 : (Lit.int .i64 x1).wf = true) (a2 : ByteArray) (w2 : a2.size ≤ 140737488351232) :
    Calls Try.prog 4 #[.int .i64 x0, .int .i64 x1, .string a2] w fun e w' => e = .returned (.bool true) ∧ Below w.heap.size w w' := by
  obtain ⟨j0, hj, hy0, hy1, hy2⟩ := info_parts info_int
  have hml : a2.size ≤ maxLen := by unfold maxLen; omega
  obtain ⟨k, hk4, hke⟩ := and_mask x0 2 (by decide)
  obtain ⟨rd, hr16, hre⟩ := and_mask x1 4 (by decide)
  replace hke : bits BinOp.and IntKind.i64 x0 3 = (k : Int) := hke
  replace hre : bits BinOp.and IntKind.i64 x1 15 = (rd : Int) := hre
  have hk3 : k ≤ 3 := by have : (2 : Nat) ^ 2 = 4 := by decide
                         omega
  have hr15 : rd ≤ 15 := by have : (2 : Nat) ^ 4 = 16 := by decide
                            omega
  clear hk4 hr16
  have hw9 : IntKind.i64.wrap ((a2.size : Int) + 9) = (a2.size : Int) + 9 := by rw [IntKind.wrap_i64]; omega
  cases hf : filB a2 with
  | false =>
    go_enter Try.func4, Try.ntmps4
    go_wp2_with (first | (go_at_call 12; refine (filter_any _ _ hml).mono ?_; rw [hf]; rintro e w' ⟨rfl, rfl⟩))
    go_ret
    exact ⟨rfl, Below.refl _ _⟩
  | true =>
    cases ht : topB a2 with
    | false =>
      go_enter Try.func4, Try.ntmps4
      go_wp2_with (first | (go_at_call 8; refine (topic_any _ _ hml).mono ?_; rw [ht]; rintro e w' ⟨rfl, rfl⟩) | (go_at_call 12; refine (filter_any _ _ hml).mono ?_; rw [hf]; rintro e w' ⟨rfl, rfl⟩))
      go_ret
      exact ⟨rfl, Below.refl _ _⟩
    | true =>
      by_cases h24 : 24 < a2.size + 9
      · have h24I : (24 : Int) < (a2.size : Int) + 9 := by omega
        go_enter Try.func4, Try.ntmps4
        go_wp2_with (first | (go_at_call 8; refine (topic_any _ _ hml).mono ?_; rw [ht]; rintro e w' ⟨rfl, rfl⟩) | (go_at_call 12; refine (filter_any _ _ hml).mono ?_; rw [hf]; rintro e w' ⟨rfl, rfl⟩))
        go_ret
        exact ⟨rfl, Below.refl _ _⟩
      · have h24I : decide ((24 : Int) < (a2.size : Int) + 9) = false := by simp; omega
        have hfz : (filterR a2.data.toList).1 = 0 := by unfold filB at hf; simpa using hf
        have htz : (topicR a2.data.toList).1 = 0 := by unfold topB at ht; simpa using ht
        have HSUB : Hid (∀ (H : HubL) (c : Nat), FJ a2.data.toList H c → c < 4 → subH (comeH H c) c ((⟨#[36, 115, 104, 97, 114, 101, 47, 103, 47]⟩ : ByteArray) ++ a2).data.toList = ((0, 0), addS (comeH H c) c (shareG a2.data.toList))) := fun H c h hc => by
          rw [share_data]; exact fj_sub h hc hfz (by rw [len_list]; omega)
        have HPUB : Hid (∀ (H : HubL) (i : Nat), FR a2.data.toList k H i → ∃ H', pubH H a2.data.toList (⟨#[120]⟩ : ByteArray).data.toList false = (([((i % (k + 1) : Nat) : Int)], 0, 0), H') ∧ FR a2.data.toList k H' (i + 1)) := fun H i h => fr_publish h hk3 (self_listsF _ htz) htz
        have hss : ((⟨#[36, 115, 104, 97, 114, 101, 47, 103, 47]⟩ : ByteArray) ++ a2).size ≤ maxLen := by rw [share_size]; unfold maxLen; omega
        clear hfz htz
        go_enter Try.func4, Try.ntmps4
        go_wp2_with (first | (go_at_call 8; refine (topic_any _ _ hml).mono ?_; rw [ht]; rintro e w' ⟨rfl, rfl⟩) | (go_at_call 12; refine (filter_any _ _ hml).mono ?_; rw [hf]; rintro e w' ⟨rfl, rfl⟩))
        refine (sit_newP _).mono ?_
        rintro e w4 ⟨P, rfl, hs4⟩
        have HS4 := hide hs4
        clear hs4
        go_wp2_with (at_make; refine wpList_make_full _ rfl _ _ 25 rfl w4.heap.size 3 j0 (.int .i64 0) 1 Try.underlying25 hj hy0 hy1 .i64 .i64 4 4 4 rfl rfl rfl rfl (by rw [hy2]; omega) (by unfold maxLen; omega) (Nat.le_refl _) ?_; intro w5 hown hgrow)
        have hb5 : Below w4.heap.size w4 w5 := (Below.refl _ w4).grown hgrow (Nat.le_refl _) (fun k hk => by cases hk)
        have HF5 : Hid (FSit w' w5 P hub0 w4.heap.size (hadG k 0)) := by
          obtain ⟨S, x1, x2, x3⟩ := unhide HS4
          refine ⟨⟨S, x1.below hb5, x2, fun hs => by have := x1.lt hs; omega⟩, ?_, x3.trans (hb5.mono x3.size), x3.size⟩
          have he : (madeCells (Value.int .i64 0).cells (4 * 1)).toList = (hadG k 0).map (Value.int .i64) := by
            rw [hadG_zero]; exact (toList_madeCells_one _ _).trans rfl
          rw [← he]; exact own_mono hown (Nat.zero_le _)
        clear hown hgrow hb5 HS4 hj hy0 hy1 hy2
        generalize w4.heap.size = N at *
        go_loopg [11, 12, 13, 14] (k + 1) (fun gk cc _ _ _ wr => ∃ (c : Nat) (H : HubL), c ≤ k + 1 ∧ gk = k + 1 - c ∧ cc = .int .i64 c ∧ Hid (FJ a2.data.toList H c) ∧ Hid (FSit w' wr P H N (hadG k 0)))
        case atStart => exact ⟨0, hub0, by omega, by omega, rfl, fj_zero _, HF5⟩
        case round =>
          clear HF5
          obtain ⟨c, H, hc, rfl, rfl, HJ, HS⟩ := hrel
          by_cases hlt : c ≤ k
          · have hltI : (c : Int) ≤ (k : Int) := by omega
            have HSB := hide (unhide HSUB H c (unhide HJ) (by omega))
            have HJN := hide (fj_next (unhide HJ))
            go_wp2_with fail
            refine (fs_connect (unhide HS) c 0 (comeH H c) (fj_connect H c (by omega))).mono ?_
            rintro e w6 ⟨rfl, hs6⟩
            replace HS := hide hs6
            clear hs6
            go_wp2_with fail
            refine (fs_subscribe (unhide HS) c _ hss 0 0 _ (unhide HSB)).mono ?_
            rintro e w7 ⟨rfl, hs7⟩
            replace HS := hide hs7
            clear hs7
            go_wp2_with (go_at_call 9; refine (num_any _ _).mono ?_; rintro e w'' ⟨rfl, rfl⟩)
            go_roundg (k + 1 - (c + 1))
            case measure => omega
            case rel => exact ⟨c + 1, _, by omega, rfl, by go_num, HJN, HS⟩
          · have hltI : decide ((c : Int) ≤ (k : Int)) = false := by simp; omega
            have hce : c = k + 1 := by omega
            rw [hce] at HJ
            have HR0 := hide (fr_zero (unhide HJ))
            clear HJ hce
            go_wp2_with fail
            go_loopg [15, 16, 17, 18] rd (fun gk ii _ _ _ wr => ∃ (i : Nat) (H : HubL), i ≤ rd ∧ gk = rd - i ∧ ii = .int .i64 i ∧ Hid (FR a2.data.toList k H i) ∧ Hid (FSit w' wr P H N (hadG k i)))
            case atStart => exact ⟨0, H, by omega, by omega, rfl, HR0, HS⟩
            case round =>
              clear HR0 HS hltI hlt
              obtain ⟨i, H, hi, rfl, rfl, HR, HS⟩ := hrel
              by_cases hlt : i < rd
              · obtain ⟨H', hp, hfr⟩ := unhide HPUB H i (unhide HR)
                have HP := hide hp
                have HFR := hide hfr
                clear hp hfr HR
                have hwk : i % (k + 1) ≤ k := by have := Nat.mod_lt i (show 0 < k + 1 by omega); omega
                have HNX := hide (hadG_next k i hk3)
                have hcb : cntC k i (i % (k + 1)) ≤ 30 := by
                  unfold cntC
                  rw [if_pos hwk]
                  exact Nat.le_trans (Nat.div_le_self _ _) (by omega)
                have HCA : Hid (∀ c, c < 4 → (hadG k i)[c]? = some (cntC k i c : Int)) := fun c hc => by rw [List.getElem?_eq_getElem (by rw [hadG_len]; omega), hadG_at]
                generalize i % (k + 1) = wv at *
                go_wp2_with fail
                refine (fs_publish (unhide HS) a2 (⟨#[120]⟩ : ByteArray) false hml (by unfold maxLen; decide) _ _ _ _ (unhide HP)).mono ?_
                rintro e w6 ⟨v, rfl, hv, hs6⟩
                obtain ⟨gl, cap, rfl⟩ := own_form hv (by simp)
                have hcc := own_cap hv
                unfold maxLen at hcc
                obtain ⟨hcc1, hcc2⟩ := hcc
                have l0 : w6.cell? ⟨gl, 0, none⟩ = some (.int .i64 (wv : Int)) := by
                  have := hv.cells (g := gl) rfl 0 (.int .i64 (wv : Int)) rfl
                  rw [add_at] at this; exact this
                have hgl : gl ≠ N := fun e => by have := (hv.lt gl rfl).1; have := (unhide HS).lt; omega
                have hce := hs6.row.cellAt wv (by omega)
                have hfz := hs6.row.frozenAt wv
                rw [List.getElem?_map, unhide HCA wv (by omega)] at hce
                simp only [Option.map_some] at hce
                replace HS := hide hs6
                have HST := hide (hs6.store wv ((cntC k i wv : Int) + 1))
                rw [unhide HNX] at HST
                have hw1 : IntKind.i64.wrap ((cntC k i wv : Int) + 1) = (cntC k i wv : Int) + 1 := by rw [IntKind.wrap_i64]; omega
                have hneg : decide ((wv : Int) < 0) = false := by simp
                have hwkI : decide ((k : Int) < (wv : Int)) = false := by simp; omega
                simp only [List.length_singleton] at *
                clear hs6 hv HCA HNX HP
                go_wp2_with (go_at_call 9; refine (num_any _ _).mono ?_; rintro e w'' ⟨rfl, rfl⟩)
                go_roundg (rd - (i + 1))
                case measure => omega
                case rel => exact ⟨i + 1, H', by omega, rfl, by go_num, HFR, HST⟩
              · have hltI : decide ((i : Int) < (rd : Int)) = false := by simp; omega
                clear HR HPUB HSUB
                have HCF := hide (fun c d => cnt_fair k i c d hk3)
                have HCB : Hid (∀ c, c ≤ k → cntC k i c ≤ 30) := fun c hc => by
                  unfold cntC
                  rw [if_pos hc]
                  exact Nat.le_trans (Nat.div_le_self _ _) (by omega)
                go_wp2_with fail
                go_loopg [19, 20] (k + 1) (fun gk cc _ wr => ∃ c : Nat, c ≤ k + 1 ∧ gk = k + 1 - c ∧ cc = .int .i64 c ∧ Hid (FSit w' wr P H N (hadG k i)))
                case atStart => exact ⟨0, by omega, by omega, rfl, HS⟩
                case round =>
                  clear HS
                  obtain ⟨c, hc, rfl, rfl, HS⟩ := hrel
                  by_cases hck : c ≤ k
                  · have hckI : (c : Int) ≤ (k : Int) := by omega
                    go_wp2_with fail
                    go_loopg [20] (k + 1) (fun gk dd wr => ∃ d : Nat, d ≤ k + 1 ∧ gk = k + 1 - d ∧ dd = .int .i64 d ∧ Hid (FSit w' wr P H N (hadG k i)))
                    case atStart => exact ⟨0, by omega, by omega, rfl, HS⟩
                    case round =>
                      clear HS
                      obtain ⟨d, hd, rfl, rfl, HS⟩ := hrel
                      by_cases hdk : d ≤ k
                      · have hdkI : (d : Int) ≤ (k : Int) := by omega
                        have ec := (unhide HS).row.cellAt c (by omega)
                        rw [List.getElem?_map, List.getElem?_eq_getElem (by rw [hadG_len]; omega), hadG_at] at ec
                        simp only [Option.map_some] at ec
                        have ed := (unhide HS).row.cellAt d (by omega)
                        rw [List.getElem?_map, List.getElem?_eq_getElem (by rw [hadG_len]; omega), hadG_at] at ed
                        simp only [Option.map_some] at ed
                        have hfa := unhide HCF c d hck hdk
                        have hb1 := unhide HCB d hdk
                        have hw1 : IntKind.i64.wrap ((cntC k i d : Int) + 1) = (cntC k i d : Int) + 1 := by rw [IntKind.wrap_i64]; omega
                        have hgt : decide ((cntC k i d : Int) + 1 < (cntC k i c : Int)) = false := by simp; omega
                        have hc4 : (c : Int) < 4 := by omega
                        have hd4 : (d : Int) < 4 := by omega
                        generalize cntC k i d = vd at *
                        generalize cntC k i c = vc at *
                        go_wp2_with fail
                        go_quiet (fail)
                        go_wp2_with fail
                        go_roundg (k + 1 - (d + 1))
                        case measure => omega
                        case rel => exact ⟨d + 1, by omega, rfl, by go_num, (unhide HS).on ⟨rfl, rfl, rfl, Nat.le_refl _, fun _ _ => rfl⟩⟩
                      · have hdkI : decide ((d : Int) ≤ (k : Int)) = false := by simp; omega
                        go_wp2_with fail
                        go_roundg (k + 1 - (c + 1))
                        case measure => omega
                        case rel => exact ⟨c + 1, by omega, rfl, by go_num, HS⟩
                  · have hckI : decide ((c : Int) ≤ (k : Int)) = false := by simp; omega
                    have HE := hide (unhide HS).bel
                    go_wp2_with fail
                    go_ret
                    exact ⟨rfl, unhide HE⟩

end Go.Proofs.Ytchhmojnoiephab
