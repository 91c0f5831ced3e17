/- FirstRound: the answer, plain; spec. -/
import Derived.Test.YtihdhgkknfohaadIro
import Derived.Test.YtihdhgkknfohaadIzr
namespace Go.Proofs.Ytihdhgkknfohaad
set_option linter.unusedVariables false
open Go.RowKit

theorem degTo_count {m : Nat} {bs : List Br} (hg : Good m bs) (i : Nat) : ∀ k, k ≤ bs.length → degTo bs i k = (List.range k).countP (atK bs i)
  | 0, _ => rfl
  | k + 1, h => by
    have ih := degTo_count hg i k (by omega)
    rw [List.range_succ, List.countP_append, ← ih]
    show degTo bs i k + _ = _
    congr 1
    have e : atB (gb bs k).1 (gb bs k).2.1 i = atK bs i k := by
      rw [Bool.eq_iff_iff, atK_at hg (by omega)]
      simp [atB]
    rw [e]
    cases hk : atK bs i k <;> simp [hk]
theorem pickE_all (bs : List Br) : pickE bs (List.range bs.length) = bs := by
  apply List.ext_getElem
  · simp [pickE]
  · intro i h1 h2
    simp [pickE, gb, h2]
theorem can_iff {m : Nat} {bs : List Br} (hg : Good m bs) {f : Nat} (hf : f < m) : Can m bs (List.range bs.length) f f ↔ evenB m bs = true ∧ allS m bs f = true := by
  unfold Can
  have e1 : allE m bs (List.range bs.length) f = allS m bs f := by
    unfold allE allS; rw [pickE_all]
  rw [e1]
  refine and_congr ?_ Iff.rfl
  unfold Par evenB
  rw [List.all_eq_true]
  constructor
  · intro h i hi
    have := h i (List.mem_range.1 hi)
    rw [decide_eq_true_eq, degTo_count hg i _ (Nat.le_refl _)]
    unfold dgE at this
    rw [this]; split <;> rfl
  · intro h i hi
    have := h i (List.mem_range.2 hi)
    rw [decide_eq_true_eq, degTo_count hg i _ (Nat.le_refl _)] at this
    unfold dgE
    rw [this]; split <;> rfl
/-- one can go round from an island -/
def canR (m : Nat) (bs : List Br) (f : Nat) : Bool := evenB m bs && allS m bs f
theorem canR_iff {m : Nat} {bs : List Br} (hg : Good m bs) {f : Nat} (hf : f < m) : canR m bs f = true ↔ Can m bs (List.range bs.length) f f := by
  rw [can_iff hg hf]; simp [canR]
theorem canR_even {m : Nat} {bs : List Br} (hg : Good m bs) {f : Nat} (h : canR m bs f = true) : evenV m bs = true := by
  unfold canR at h
  rw [Bool.and_eq_true] at h
  unfold evenV
  rw [h.1, Bool.true_and]
  by_cases h0 : bs = []
  · subst h0; rfl
  · have hp : 0 < bs.length := List.length_pos_iff.2 h0
    unfold allS at h ⊢
    rw [List.all_eq_true] at h ⊢
    have h1 := h.2 _ (gb_mem hp)
    intro b hb
    have h2 := h.2 b hb
    unfold same at *
    simp only [decide_eq_true_eq] at *
    omega
def rndB (n : Int) (bs : List Br) (f : Int) : Bool := askI n bs f && canR n.toNat bs f.toNat
def rndZ (n : Int) (bs : List Br) (f : Int) : List Nat := if rndB n bs f then trF n.toNat bs bs.length [] f.toNat else []
theorem rnd_no1 {n : Int} {bs : List Br} {f : Int} (h : askI n bs f = false) : rndB n bs f = false ∧ rndZ n bs f = [] := by simp [rndZ, rndB, h]
theorem rnd_no2 {m k : Nat} {bs : List Br} (h : canR m bs k = false) : rndB m bs k = false ∧ rndZ m bs k = [] := by simp [rndZ, rndB, h]
theorem rnd_yes {m k : Nat} {bs : List Br} (h1 : askI m bs k = true) (h : canR m bs k = true) : rndB m bs k = true ∧ rndZ m bs k = trF m bs bs.length [] k := by simp [rndZ, rndB, h, h1]
theorem rndZ_len (n : Int) (bs : List Br) (f : Int) : (rndZ n bs f).length ≤ 14 := by
  unfold rndZ; split
  · rename_i h
    unfold rndB at h
    rw [Bool.and_eq_true] at h
    obtain ⟨m, k, rfl, rfl, _, _, hl, _, _⟩ := askI_in h.1
    have := trF_len (m := m) (bs := bs) bs.length [] k
    simp at this
    simp only [Int.toNat_natCast]; omega
  · simp
theorem wo_rem_len {n : Nat} {l : List Nat} {k : Nat} (h : k ∈ rem n l) : (rem n (l ++ [k])).length + 1 = (rem n l).length := by
  rw [rem_snoc]; exact (wo_len (rem_nodup n l) h).symm
theorem isRound (m : Nat) (v : Value) (bs : List Br) (home : Nat) (hg : Good m bs) (hm : m ≤ 7) (hl : bs.length ≤ 14) (hh : home < m) (f : Nat) :
    ∀ (begin : List Nat) (a : Nat) (vb : Value) (w : World), RdB w v bs → begin.Nodup → (∀ x ∈ begin, x < bs.length) → begin.length + f = bs.length → (rem bs.length begin).length = f → a < m → Rd w vb (idx begin) → (∀ c, vb = .slice none 0 c → c = 0) →
      Calls Try.prog 16 #[.agg #[.int .i64 m, v], vb, .int .i64 (a : Int), .int .i64 (home : Int)] w (RndS (begin.length = bs.length) (spF bs home f begin a) w) := by
  induction f with
  | zero =>
    intro begin a vb w h hn hlt hlen hrem ha hI hnil
    refine isRoundStep m v bs home hg hm hl begin a vb w h (by omega) ha hh hI hnil (fun _ => none) _ (fun h1 h2 => ?_) (fun h1 h2 => ?_) (fun h1 => absurd (by omega) h1) (fun k hk hno hat => ?_)
    · subst h2; simp [spF]
    · simp [spF, h2]
    · have hm2 : k ∈ rem bs.length begin := mem_rem.2 ⟨hk, hno⟩
      rw [List.length_eq_zero_iff.1 hrem] at hm2; cases hm2
  | succ f ih =>
    intro begin a vb w h hn hlt hlen hrem ha hI hnil
    refine isRoundStep m v bs home hg hm hl begin a vb w h (by omega) ha hh hI hnil (fun k => spF bs home f (begin ++ [k]) (acr bs a k)) _ (fun h1 _ => absurd h1 (by omega)) (fun h1 _ => absurd h1 (by omega)) (fun _ => rfl) (fun k hk hno hat g c w1 hB1 hI1 => ?_)
    have hm2 : k ∈ rem bs.length begin := mem_rem.2 ⟨hk, hno⟩
    have := wo_rem_len hm2
    have e : begin.length + 1 = (begin ++ [k]).length := by simp
    have hst := ih (begin ++ [k]) (acr bs a k) (.slice (some ⟨g, 0, none⟩) (begin.length + 1) c) w1 (h.below hB1) ?_ ?_ (by simp; omega) (by omega) (smE_at hg (fun x hx => (mem_rem.1 hx).1) hm2 hat).2.1 hI1 (fun c e => by cases e)
    · rw [← e] at hst; exact hst
    · rw [List.nodup_append]
      exact ⟨hn, by simp, fun x hx y hy => by simp at hy; subst hy; exact fun e => hno (e ▸ hx)⟩
    · intro x hx
      rcases List.mem_append.1 hx with hx | hx
      · exact hlt x hx
      · simp at hx; omega
theorem spF_can {m : Nat} {bs : List Br} (hg : Good m bs) {k : Nat} (hk : k < m) (h : canR m bs k = true) : spF bs k bs.length [] k = some (trF m bs bs.length [] k) :=
  (spF_eq hg hk bs.length [] k hk (by rw [rem_nil, List.length_range])).1 (by rw [rem_nil]; exact (canR_iff hg hk).1 h)
theorem spF_cannot {m : Nat} {bs : List Br} (hg : Good m bs) {k : Nat} (hk : k < m) (h : canR m bs k = false) : spF bs k bs.length [] k = none :=
  (spF_eq hg hk bs.length [] k hk (by rw [rem_nil, List.length_range])).2 (by rw [rem_nil]; intro h2; rw [(canR_iff hg hk).2 h2] at h; cases h)
theorem canR_nil (m k : Nat) : canR m [] k = true := by
  have e : evenB m [] = true := evenB_yes fun i _ => rfl
  simp [canR, e, allS]
set_option maxHeartbeats 1000000 in
theorem specRnd (n : Int) (v : Value) (bs : List Br) (f : Int) (w : World) (h : RdB w v bs) (hl : bs.length ≤ 1048576) :
    Calls Try.prog 5 #[.agg #[.int .i64 n, v], .int .i64 f] w fun e w' => ∃ u, e = .returned (.tuple #[u, .bool (rndB n bs f)]) ∧ Ints w' w.heap.size u (idx (rndZ n bs f)) ∧ Below w.heap.size w w' := by
  have H := Lib.hid h
  obtain ⟨a, l, c, rfl, t⟩ := h
  clear t
  cases hg : askI n bs f
  · have Z := Lib.hid (rnd_no1 hg)
    have G := Lib.hid hg
    clear hg
    go_enter Try.func5, Try.ntmps5
    go_wp2_with fail
    refine (isAsked n _ bs f _ (H.out.below (by (repeat (first | exact Below.refl _ _ | (refine Below.alloc ?_ (by first | omega | (simp; try omega)) _) | apply Below.drew | apply below_drewN)))) hl).mono ?_
    rw [G.out]
    rintro e w1 ⟨rfl, hb⟩
    have HB := Lib.hid (Below.trans (by (repeat (first | exact Below.refl _ _ | (refine Below.alloc ?_ (by first | omega | (simp; try omega)) _) | apply Below.drew | apply below_drewN))) (hb.mono (by simp; try omega)) : Below w.heap.size w w1)
    clear hb
    go_wp2
    go_ret2
    exact ⟨_, by rw [Z.out.1]; rfl, by rw [Z.out.2]; exact World.ownsRow_nil _ _ _ _, HB.out⟩
  obtain ⟨m, k, rfl, rfl, hm1, hm7, hl14, hgd, hkm⟩ := askI_in hg
  have HG := Lib.hid hgd
  have HA := Lib.hid hg
  have EV := Lib.hid (fun h => canR_even hgd (f := k) h)
  cases hev : evenV m bs
  · have Z := Lib.hid (rnd_no2 (m := m) (bs := bs) (k := k) (by cases hc : canR m bs k; rfl; rw [EV.out hc] at hev; cases hev))
    have E := Lib.hid hev
    clear hg hgd hev EV
    go_enter Try.func5, Try.ntmps5
    go_wp2_with fail
    refine (isAsked _ _ bs _ _ (H.out.below (by (repeat (first | exact Below.refl _ _ | (refine Below.alloc ?_ (by first | omega | (simp; try omega)) _) | apply Below.drew | apply below_drewN)))) hl).mono ?_
    rw [HA.out]
    rintro e w1 ⟨rfl, hb⟩
    have HB := Lib.hid (Below.trans (by (repeat (first | exact Below.refl _ _ | (refine Below.alloc ?_ (by first | omega | (simp; try omega)) _) | apply Below.drew | apply below_drewN))) (hb.mono (by simp; try omega)) : Below w.heap.size w w1)
    have XB := Lib.hid ((Blk.new w #[.int .i64 m, .slice a l c] 31).below hb (by simp))
    obtain ⟨c0, c1, l0⟩ := XB.out.two
    clear hb
    go_wp2_with fail
    refine (isEven m _ bs _ (H.out.below HB.out) HG.out hm1 hm7 hl14).mono ?_
    rw [E.out]
    rintro e w2 ⟨rfl, hb⟩
    have HB2 := Lib.hid (HB.out.trans (hb.mono HB.out.size))
    clear hb c0 c1
    go_wp2
    go_ret2
    exact ⟨_, by rw [Z.out.1]; rfl, by rw [Z.out.2]; exact World.ownsRow_nil _ _ _ _, HB2.out⟩
  have E := Lib.hid hev
  have RD := Lib.hid (fun (wx : World) (hR : RdB wx (.slice a l c) bs) => isRound m (.slice a l c) bs k hgd hm7 hl14 hkm bs.length [] k (.slice none 0 0) wx hR List.nodup_nil (fun x hx => by cases hx) (by simp) (by rw [rem_nil, List.length_range]) hkm (.inl ⟨⟨none, 0, rfl⟩, rfl⟩) (fun c e => by injection e with _ _ e3; exact e3.symm))
  cases hc : canR m bs k
  · have Z := Lib.hid (rnd_no2 hc)
    have SP := Lib.hid (spF_cannot hgd hkm hc)
    have hne : ¬ ([] : List Nat).length = bs.length := by
      intro h0
      have : bs = [] := List.length_eq_zero_iff.1 h0.symm
      subst this
      rw [canR_nil] at hc; cases hc
    have HNE := Lib.hid hne
    clear hg hgd hev EV hc hne
    go_enter Try.func5, Try.ntmps5
    go_wp2_with fail
    refine (isAsked _ _ bs _ _ (H.out.below (by (repeat (first | exact Below.refl _ _ | (refine Below.alloc ?_ (by first | omega | (simp; try omega)) _) | apply Below.drew | apply below_drewN)))) hl).mono ?_
    rw [HA.out]
    rintro e w1 ⟨rfl, hb⟩
    have HB := Lib.hid (Below.trans (by (repeat (first | exact Below.refl _ _ | (refine Below.alloc ?_ (by first | omega | (simp; try omega)) _) | apply Below.drew | apply below_drewN))) (hb.mono (by simp; try omega)) : Below w.heap.size w w1)
    have XB := Lib.hid ((Blk.new w #[.int .i64 m, .slice a l c] 31).below hb (by simp))
    obtain ⟨c0, c1, l0⟩ := XB.out.two
    clear hb
    go_wp2_with fail
    refine (isEven m _ bs _ (H.out.below HB.out) HG.out hm1 hm7 hl14).mono ?_
    rw [E.out]
    rintro e w2 ⟨rfl, hb⟩
    have HB2 := Lib.hid (HB.out.trans (hb.mono HB.out.size))
    have XB2 := Lib.hid (XB.out.below hb XB.out.lt)
    clear hb c0 c1 l0
    obtain ⟨c0, c1, l0⟩ := XB2.out.two
    go_wp2_with fail
    refine (RD.out _ (H.out.below HB2.out)).mono ?_
    rw [SP.out]
    rintro e w3 ⟨u, rfl, _, hu, hb⟩
    obtain rfl := hu rfl HNE.out
    have HB3 := Lib.hid (HB2.out.trans (hb.mono HB2.out.size))
    clear hb hu
    go_wp2
    go_ret2
    exact ⟨_, by rw [Z.out.1]; rfl, by rw [Z.out.2]; exact World.ownsRow_nil _ _ _ _, HB3.out⟩
  · have Z := Lib.hid (rnd_yes hg hc)
    have SP := Lib.hid (spF_can hgd hkm hc)
    clear hg hgd hev EV hc
    go_enter Try.func5, Try.ntmps5
    go_wp2_with fail
    refine (isAsked _ _ bs _ _ (H.out.below (by (repeat (first | exact Below.refl _ _ | (refine Below.alloc ?_ (by first | omega | (simp; try omega)) _) | apply Below.drew | apply below_drewN)))) hl).mono ?_
    rw [HA.out]
    rintro e w1 ⟨rfl, hb⟩
    have HB := Lib.hid (Below.trans (by (repeat (first | exact Below.refl _ _ | (refine Below.alloc ?_ (by first | omega | (simp; try omega)) _) | apply Below.drew | apply below_drewN))) (hb.mono (by simp; try omega)) : Below w.heap.size w w1)
    have XB := Lib.hid ((Blk.new w #[.int .i64 m, .slice a l c] 31).below hb (by simp))
    obtain ⟨c0, c1, l0⟩ := XB.out.two
    clear hb
    go_wp2_with fail
    refine (isEven m _ bs _ (H.out.below HB.out) HG.out hm1 hm7 hl14).mono ?_
    rw [E.out]
    rintro e w2 ⟨rfl, hb⟩
    have HB2 := Lib.hid (HB.out.trans (hb.mono HB.out.size))
    have XB2 := Lib.hid (XB.out.below hb XB.out.lt)
    clear hb c0 c1 l0
    obtain ⟨c0, c1, l0⟩ := XB2.out.two
    go_wp2_with fail
    refine (RD.out _ (H.out.below HB2.out)).mono ?_
    rw [SP.out]
    rintro e w3 ⟨u, rfl, hI, _, hb⟩
    have HI := Lib.hid (ints_mono' (hI _ rfl) HB2.out.size)
    have HB3 := Lib.hid (HB2.out.trans (hb.mono HB2.out.size))
    clear hb hI
    go_wp2
    go_ret2
    exact ⟨_, by rw [Z.out.1]; rfl, by rw [Z.out.2]; exact HI.out, HB3.out⟩
end Go.Proofs.Ytihdhgkknfohaad
