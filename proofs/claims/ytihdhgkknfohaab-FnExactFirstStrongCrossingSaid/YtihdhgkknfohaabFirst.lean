/- FirstCrossing, impl and spec. -/
import Derived.Test.YtihdhgkknfohaabFew
import Derived.Deep.LoopGhost
import Derived.WalkMore
namespace Go.Proofs.Ytihdhgkknfohaab
set_option linter.unusedVariables false
open Go.RowKit

/-- the first place from q on, below n, at which r stands -/
def fa (zs : List Int) (r : Int) : Nat → Nat → Nat
  | 0, q => q
  | f + 1, q => if gt zs q = r then q else fa zs r f (q + 1)
def fi (zs : List Int) (r : Int) (q : Nat) : Nat := fa zs r (zs.length - q) q
theorem fi_hit {zs : List Int} {r : Int} {q : Nat} (hq : q < zs.length) (h : gt zs q = r) : fi zs r q = q := by
  unfold fi; obtain ⟨f, hf⟩ : ∃ f, zs.length - q = f + 1 := ⟨zs.length - q - 1, by omega⟩
  rw [hf]; simp [fa, h]
theorem fi_miss {zs : List Int} {r : Int} {q : Nat} (hq : q < zs.length) (h : gt zs q ≠ r) : fi zs r q = fi zs r (q + 1) := by
  unfold fi; obtain ⟨f, hf⟩ : ∃ f, zs.length - q = f + 1 := ⟨zs.length - q - 1, by omega⟩
  rw [hf, show zs.length - (q + 1) = f from by omega]; simp [fa, h]
/-- the places of a first crossing behind p, r leaps from its end -/
def fc (zs : List Int) : Nat → Nat → List Int
  | 0, _ => []
  | r + 1, p => (fi zs r (p + 1) : Int) :: fc zs r (fi zs r (p + 1))
theorem fc_len (zs : List Int) : ∀ r p, (fc zs r p).length = r
  | 0, _ => rfl
  | r + 1, p => by simp [fc, fc_len zs r]
/-- wherever one has r + 1 leaps left there is a place farther on with r left -/
def Steps (zs : List Int) : Prop := ∀ p (r : Nat), gt zs p = (r : Int) + 1 → ∃ q, p < q ∧ q < zs.length ∧ gt zs q = r
theorem oml_hit (l : List Int) : ∀ n, n ≤ l.length → 0 ≤ oml (l.take n) → ∃ j, j < n ∧ gt l j + 1 = oml (l.take n) ∧ 0 ≤ gt l j := by
  intro n
  induction n with
  | zero => intro _ h; rw [oml_0] at h; omega
  | succ n ih =>
    intro hn h
    rw [oml_take l n (by omega)] at h ⊢
    by_cases h0 : 0 ≤ gt l n ∧ (oml (l.take n) < 0 ∨ gt l n + 1 < oml (l.take n))
    · rw [omStep_yes h0.1 h0.2]; exact ⟨n, by omega, rfl, h0.1⟩
    · have e : omStep (oml (l.take n)) (gt l n) = oml (l.take n) := by unfold omStep; rw [if_neg h0]
      rw [e] at h ⊢
      obtain ⟨j, h1, h2, h3⟩ := ih (by omega) h
      exact ⟨j, by omega, h2, h3⟩
theorem lvl_steps (s : ByteArray) (l far : Nat) : ∀ k, Steps (lvl s l far k)
  | 0 => by
    intro p r h
    simp only [lvl, gt_cons] at h
    split at h
    · omega
    · simp [gt] at h; omega
  | k + 1 => by
    intro p r h
    have ih := lvl_steps s l far k
    cases p with
    | succ p =>
      have e : gt (lvl s l far (k + 1)) (p + 1) = gt (lvl s l far k) p := by simp only [lvl, gt_cons]; simp
      rw [e] at h
      obtain ⟨q, h1, h2, h3⟩ := ih p r h
      refine ⟨q + 1, by omega, by simp [lvl]; omega, ?_⟩
      have e2 : gt (lvl s l far (k + 1)) (q + 1) = gt (lvl s l far k) q := by simp only [lvl, gt_cons]; simp
      rw [e2]; exact h3
    | zero =>
      cases hst : stand s (far - (k + 1))
      · rw [lvl_no hst] at h; simp [gt] at h; omega
      · rw [lvl_yes hst] at h ⊢
        simp only [gt_cons, if_true] at h
        obtain ⟨j, h1, h2, h3⟩ := oml_hit ((lvl s l far k).take l) _ (Nat.le_refl _) (by rw [List.take_length]; omega)
        rw [List.take_length, h] at h2
        have hj : j < l := by simp at h1; omega
        have e : gt ((lvl s l far k).take l) j = gt (lvl s l far k) j := by simp [gt, hj]
        refine ⟨j + 1, by omega, by simp at h1 ⊢; omega, ?_⟩
        rw [gt_cons, if_neg (by omega), Nat.add_sub_cancel, ← e]; omega
def firstL (s : ByteArray) (L : Int) : List Int := if asked s L ∧ 0 ≤ gt (leftL s L) 0 then 0 :: fc (leftL s L) (gt (leftL s L) 0).toNat 0 else []
def firstB (s : ByteArray) (L : Int) : Bool := asked s L && decide (0 ≤ gt (leftL s L) 0)
theorem firstL_1 {s : ByteArray} {L : Int} (h : asked s L = false) : firstL s L = [] ∧ firstB s L = false := by simp [firstL, firstB, h]
theorem firstL_2 {s : ByteArray} {L : Int} (h : gt (leftL s L) 0 < 0) : firstL s L = [] ∧ firstB s L = false := by
  have : ¬ (0 ≤ gt (leftL s L) 0) := by omega
  simp [firstL, firstB, this]
theorem firstL_3 {s : ByteArray} {L : Int} (h : asked s L = true) {r : Nat} (h' : gt (leftL s L) 0 = r) : firstL s L = 0 :: fc (leftL s L) r 0 ∧ firstB s L = true := by
  simp [firstL, firstB, h, h']
theorem firstL_len (s : ByteArray) (L : Int) : (firstL s L).length ≤ 43 := by
  unfold firstL; split
  · rename_i h; have := leftL_small h.1; simp [fc_len]; omega
  · simp

theorem one_zero (w : World) (B : Nat) (h : B ≤ w.heap.size) : Ints (w.alloc (.cells #[.int .i64 0] 3)) B (.slice (some ⟨w.heap.size, 0, none⟩) 1 1) [0] := by
  have := World.ownsRow_lit (base := B) (e := 3) (size := 1) w #[.int .i64 0] 1 h (by unfold maxLen; omega) rfl
  exact this

set_option maxHeartbeats 4000000 in
theorem implFirst (s : ByteArray) (L : Int) (w : World) (hs : s.size ≤ 1048576) :
    Calls Try.prog 43 #[.string s, .int .i64 L] w (IntsPost' w.heap.size (firstL s L) (firstB s L) w) := by
  have I := fun wx => implLeft s L wx hs
  cases h1 : asked s L
  · have J := Lib.hid (firstL_1 h1)
    rw [h1, leftL_no h1] at I
    have HI := Lib.hid I
    clear h1 I
    go_enter Try.func43, Try.ntmps43
    go_wp2
    go_step3
    go_wp2_with (go_at_call 54; refine (HI.out _).mono ?_; rintro e w1 ⟨v, rfl, hI, hb1⟩)
    rw [Exit.noGoto_ret]
    go_ret2
    exact ⟨_, by rw [J.out.2]; rfl, by rw [J.out.1]; exact World.ownsRow_nil _ _ _ _, hb1⟩
  · rw [h1] at I
    have hp := leftL_pos h1
    have hsm := leftL_small h1
    have HI := Lib.hid I
    have LL := leftL_yes h1
    obtain ⟨_, hz1, hz2, hl1, hl2⟩ := asked_out h1
    have hst : Steps (leftL s L) := by rw [LL]; exact lvl_steps s _ _ _
    have hlen : (leftL s L).length = s.size + 2 := by rw [LL, lefts, lvl_len]
    have hbd : ∀ j, -1 ≤ gt (leftL s L) j ∧ gt (leftL s L) j ≤ 41 := fun j => by
      have := lvl_small s L.toNat (s.size + 1) (s.size + 1) j
      rw [LL]; unfold lefts; omega
    have J1 := fun h2 => firstL_2 (s := s) (L := L) h2
    have J2 := fun (r : Nat) h2 => firstL_3 (s := s) (L := L) h1 (r := r) h2
    clear I h1 LL
    generalize leftL s L = zs at *
    have HST := Lib.hid hst
    have HBD := Lib.hid hbd
    have HLN := Lib.hid hlen
    clear hst hbd
    by_cases h2 : 0 ≤ gt zs 0
    · obtain ⟨r0, hr0⟩ := Int.eq_ofNat_of_zero_le h2
      have J := Lib.hid (J2 r0 hr0)
      have hr41 : r0 ≤ 41 := by omega
      have HR0 := Lib.hid hr0
      clear J1 J2 hsm h2
      have harm : gt zs 0 = r0 := hr0
      clear hr0
      have HARM := Lib.hid harm
      clear harm
      go_enter Try.func43, Try.ntmps43
      go_wp2
      go_step3
      go_wp2_with ((go_at_call 54; refine (HI.out _).mono ?_; rintro e w2 ⟨v, rfl, hI, hb1⟩; obtain ⟨g, n, cap, rfl, hn, _, _, hg1, hg2, hcell⟩ := hI.form hp; have HCC := Lib.hid hcell; have c00 := hcell 0 (by omega); have hn0 : 0 < n := (by omega); have HN := Lib.hid hn; clear hcell hI hn); rw [HARM.out] at c00; clear hlen)
      go_step3
      go_wp2
      have s1 := hb1.size
      have hnb : n = s.size + 2 := by rw [HN.out, HLN.out]
      have hn42 : n ≤ 42 := by omega
      have HNB := Lib.hid hnb
      have H0 := Lib.hid (one_zero w2 w2.heap.size (Nat.le_refl _))
      have hB0 : Below w2.heap.size w2 (w2.alloc (.cells #[.int .i64 0] 3)) := (Below.refl _ _).alloc (Nat.le_refl _) _
      clear hnb c00 hp
      go_loopg [8, 9, 10] r0 (fun k v pl rs wr => ∃ (p : Nat) (acc : List Int), p < n ∧ k ≤ 41 ∧ pl = .int .i64 p ∧ rs = .int .i64 ((k : Int) - 1) ∧ Hid (gt zs p = k) ∧ Hid (acc ++ fc zs k p = 0 :: fc zs r0 0) ∧ Ints wr w2.heap.size v acc ∧ Below w2.heap.size w2 wr)
      case atStart => exact ⟨0, [0], hn0, hr41, rfl, rfl, HR0, Lib.hid rfl, H0.out, hB0⟩
      case round =>
        obtain ⟨p, acc, hp, hk41, rfl, rfl, HGR, HACC, hI, hb⟩ := hrel
        have hal : acc.length ≤ 43 := by have := congrArg List.length HACC.out; simp [fc_len] at this; omega
        rcases gk with _ | r
        · have hacc := HACC.out
          rw [show fc zs 0 p = [] from rfl, List.append_nil] at hacc
          have A := Lib.hid hacc
          clear hacc HACC
          go_wp2
          rw [Exit.noGoto_ret]
          go_ret2
          exact ⟨_, by rw [J.out.2]; rfl, by rw [J.out.1, ← A.out]; exact ints_mono' hI s1, hb1.trans (hb.mono s1)⟩
        · have hex := HST.out p r (by rw [HGR.out]; rfl)
          have A := Lib.hid (show acc ++ ((fi zs r (p + 1) : Int) :: fc zs r (fi zs r (p + 1))) = 0 :: fc zs r0 0 from HACC.out)
          clear HACC
          have hr : ((r + 1 : Nat) : Int) - 1 = (r : Int) := by omega
          simp only [hr]
          clear hr
          go_wp2
          obtain ⟨q1, hq1, hq2, hq3⟩ := hex
          have HQ3 := Lib.hid hq3
          have hq4 : q1 < n := by rw [HN.out]; exact hq2
          clear hq3 hq2
          obtain ⟨wo, rfl⟩ : ∃ wo : World, wo = wr := ⟨_, rfl⟩
          go_loopg [8, 9] (n - (p + 1)) (fun k v pl wr => ∃ q : Nat, k = n - q ∧ p < q ∧ q ≤ q1 ∧ pl = .int .i64 q ∧ Hid (fi zs r (p + 1) = fi zs r q) ∧ Ints wr w2.heap.size v acc ∧ Below w2.heap.size w2 wr)
          case atStart => exact ⟨p + 1, rfl, by omega, by omega, rfl, Lib.hid rfl, hI, hb⟩
          case round =>
            clear hI hb
            obtain ⟨q, rfl, hq, hqq, rfl, HFI, hI, hb⟩ := hrel
            have hle := hb.size
            have hqn : q < n := by omega
            have c2 := (hb.cell (p := ⟨g, q, none⟩) hg2).trans (HCC.out q hqn)
            have hqn' : (q : Int) < n := by omega
            by_cases hx : gt zs q = r
            · have F := Lib.hid (HFI.out.trans (fi_hit (by rw [← HN.out]; exact hqn) hx))
              have HX := Lib.hid hx
              rw [hx] at c2
              clear hx
              go_wp2_with (at_builtin; refine wpList_app wr rfl _ _ rfl w2.heap.size _ acc rfl hI (q : Int) rfl (by omega) hle rfl ?_; intro v' w3 hI3 hb3 hg3)
              go_roundg r
              case measure => omega
              case rel => exact ⟨q, acc ++ [(q : Int)], hqn, by omega, rfl, rfl, HX, Lib.hid (by rw [← A.out, F.out]; simp), hI3, hb.trans hb3⟩
            · have F := Lib.hid (HFI.out.trans (fi_miss (by rw [← HN.out]; exact hqn) hx))
              have hq' : q ≠ q1 := fun e => by subst e; exact hx HQ3.out
              have ht : (gt zs q == (r : Int)) = false := by simpa using hx
              have HXX := Lib.hid hx
              clear hx
              generalize gt zs q = x at *
              go_wp2
              go_roundg (n - (q + 1))
              case measure => omega
              case rel => exact ⟨q + 1, rfl, by omega, by omega, by go_num, F, hI, hb⟩
    · have J := Lib.hid (J1 (by omega))
      have h3 : gt zs 0 < 0 := by omega
      clear J1 J2 hsm h2
      go_enter Try.func43, Try.ntmps43
      go_wp2
      go_step3
      go_wp2_with (go_at_call 54; refine (HI.out _).mono ?_; rintro e w2 ⟨v, rfl, hI, hb1⟩; obtain ⟨g, n, cap, rfl, hn, _, _, hg1, hg2, hcell⟩ := hI.form hp; have HCC := Lib.hid hcell; have c00 := hcell 0 (by omega); have hn0 : 0 < n := (by omega); have HN := Lib.hid hn; clear hcell hI hn)
      rw [Exit.noGoto_ret]
      go_ret2
      exact ⟨_, by rw [J.out.2]; rfl, by rw [J.out.1]; exact World.ownsRow_nil _ _ _ _, hb1⟩
end Go.Proofs.Ytihdhgkknfohaab
