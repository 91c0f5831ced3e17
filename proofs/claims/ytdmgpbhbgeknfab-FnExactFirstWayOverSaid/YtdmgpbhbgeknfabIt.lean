/- Tolls of ways between islands: walks, the least tolls by rounds, plain. -/
import Derived.Test.YtdmgpbhbgeknfabIl
namespace Go.Proofs.Ytdmgpbhbgeknfab
set_option linter.unusedVariables false
open Go.RowKit

/-- what a bridge costs; if p is true each costs 1 -/
def wt (p : Bool) (b : Br) : Int := if p then 1 else b.2.2
theorem wt_in {m : Nat} {bs : List Br} (h : Good m bs) (p : Bool) {b : Br} (hb : b ∈ bs) : 0 ≤ wt p b ∧ wt p b ≤ 1000 := by
  have := h b hb
  unfold wt; split <;> omega
/-- a walk from s to an island, with its toll -/
inductive Wk (bs : List Br) (p : Bool) (s : Nat) : Nat → Int → Prop
  | here : Wk bs p s s 0
  | fwd {T : Int} {b : Br} : b ∈ bs → Wk bs p s b.1.toNat T → Wk bs p s b.2.1.toNat (T + wt p b)
  | bwd {T : Int} {b : Br} : b ∈ bs → Wk bs p s b.2.1.toNat T → Wk bs p s b.1.toNat (T + wt p b)
theorem Wk.pos {m : Nat} {bs : List Br} (h : Good m bs) {p : Bool} {s i : Nat} {T : Int} (hw : Wk bs p s i T) : 0 ≤ T := by
  induction hw with
  | here => omega
  | fwd hb _ ih => have := wt_in h p hb; omega
  | bwd hb _ ih => have := wt_in h p hb; omega
theorem Wk.lt {m : Nat} {bs : List Br} (h : Good m bs) {p : Bool} {s i : Nat} (hs : s < m) {T : Int} (hw : Wk bs p s i T) : i < m := by
  induction hw with
  | here => exact hs
  | fwd hb _ ih => have := h _ hb; omega
  | bwd hb _ ih => have := h _ hb; omega
theorem Wk.trans {bs : List Br} {p : Bool} {s i j : Nat} {T U : Int} (h : Wk bs p s i T) (h2 : Wk bs p i j U) : Wk bs p s j (T + U) := by
  induction h2 with
  | here => rw [Int.add_zero]; exact h
  | fwd hb _ ih => rw [← Int.add_assoc]; exact .fwd hb ih
  | bwd hb _ ih => rw [← Int.add_assoc]; exact .bwd hb ih
theorem Wk.symm {bs : List Br} {p : Bool} {s i : Nat} {T : Int} (h : Wk bs p s i T) : Wk bs p i s T := by
  induction h with
  | here => exact .here
  | @fwd T b hb _ ih =>
    have h1 : Wk bs p b.2.1.toNat b.1.toNat (0 + wt p b) := .bwd hb .here
    have := h1.trans ih
    rw [show T + wt p b = 0 + wt p b + T by omega]; exact this
  | @bwd T b hb _ ih =>
    have h1 : Wk bs p b.1.toNat b.2.1.toNat (0 + wt p b) := .fwd hb .here
    have := h1.trans ih
    rw [show T + wt p b = 0 + wt p b + T by omega]; exact this
/-- whether there is a walk does not hang on what bridges cost -/
theorem Wk.any {bs : List Br} {p q : Bool} {s i : Nat} {T : Int} (h : Wk bs p s i T) : ∃ U, Wk bs q s i U := by
  induction h with
  | here => exact ⟨_, .here⟩
  | fwd hb _ ih => obtain ⟨U, h⟩ := ih; exact ⟨_, .fwd hb h⟩
  | bwd hb _ ih => obtain ⟨U, h⟩ := ih; exact ⟨_, .bwd hb h⟩
/-- there is a walk just within a group -/
theorem Wk.grp {m : Nat} {bs : List Br} (hg : Good m bs) {p : Bool} {s i : Nat} {T : Int} (h : Wk bs p s i T) : same m bs i s = true := by
  induction h with
  | here => exact same_refl _ _ _
  | fwd hb _ ih => exact same_trans (same_symm (same_br hg hb)) ih
  | bwd hb _ ih => exact same_trans (same_br hg hb) ih
theorem Wk.of_grp {m : Nat} {bs : List Br} (hg : Good m bs) {p : Bool} {s i : Nat} (hs : s < m) (hi : i < m) (h : same m bs i s = true) : ∃ T, Wk bs p s i T := by
  have := same_inv hg (f := fun j => ∃ T, Wk bs p s j T) (fun b hb => ⟨fun ⟨T, h⟩ => ⟨_, .fwd hb h⟩, fun ⟨T, h⟩ => ⟨_, .bwd hb h⟩⟩) hi hs h
  exact this.2 ⟨_, .here⟩

/-- more than each toll -/
def big : Int := 1000000
def rx1 (p : Bool) (out : List Int) (b : Br) : List Int := out.set b.1.toNat (min (gt out b.1.toNat) (gt out b.2.1.toNat + wt p b))
def rx2 (p : Bool) (out : List Int) (b : Br) : List Int := out.set b.2.1.toNat (min (gt out b.2.1.toNat) (gt out b.1.toNat + wt p b))
def rx (p : Bool) (out : List Int) (b : Br) : List Int := rx2 p (rx1 p out b) b
def rnd (p : Bool) (bs : List Br) (out : List Int) : List Int := bs.foldl (rx p) out
def rnds (p : Bool) (bs : List Br) : Nat → List Int → List Int
  | 0, out => out
  | r + 1, out => rnd p bs (rnds p bs r out)
def tl0 (m s : Nat) : List Int := (List.replicate m big).set s 0
/-- the least tolls from s, by m rounds -/
def tl (m : Nat) (bs : List Br) (p : Bool) (s : Nat) : List Int := rnds p bs m (tl0 m s)
theorem rx_len (p : Bool) (out : List Int) (b : Br) : (rx p out b).length = out.length := by simp [rx, rx1, rx2]
theorem rnd_len (p : Bool) (bs : List Br) (out : List Int) : (rnd p bs out).length = out.length := by
  unfold rnd
  induction bs generalizing out with
  | nil => rfl
  | cons b bs ih => rw [List.foldl_cons, ih, rx_len]
theorem rnds_len (p : Bool) (bs : List Br) (r : Nat) (out : List Int) : (rnds p bs r out).length = out.length := by
  induction r with
  | zero => rfl
  | succ r ih => unfold rnds; rw [rnd_len, ih]
theorem tl_len (m : Nat) (bs : List Br) (p : Bool) (s : Nat) : (tl m bs p s).length = m := by
  unfold tl tl0; rw [rnds_len]; simp
theorem gt_set {l : List Int} {i j : Nat} {x : Int} (h : i < l.length) : gt (l.set i x) j = if i = j then x else gt l j := by
  unfold gt
  rw [List.getD_eq_getElem?_getD, List.getElem?_set, List.getD_eq_getElem?_getD]
  by_cases e : i = j
  · subst e; simp [h]
  · simp [e]
/-- the numbers are tolls of walks, or big -/
structure TlOK (m : Nat) (bs : List Br) (p : Bool) (s : Nat) (out : List Int) : Prop where
  len : out.length = m
  low : ∀ i, i < m → 0 ≤ gt out i ∧ gt out i ≤ big
  wk : ∀ i, i < m → gt out i < big → Wk bs p s i (gt out i)
theorem tlOK_0 {m : Nat} {bs : List Br} {p : Bool} {s : Nat} (hs : s < m) : TlOK m bs p s (tl0 m s) where
  len := by simp [tl0]
  low := fun i hi => by
    unfold tl0
    rw [gt_set (by simpa using hs)]
    split
    · decide
    · simp [gt, hi, big]
  wk := fun i hi h => by
    unfold tl0 at h ⊢
    rw [gt_set (by simpa using hs)] at h ⊢
    split
    · rename_i e; subst e; exact .here
    · rename_i e; rw [if_neg e] at h; simp [gt, hi] at h
theorem TlOK.put {m : Nat} {bs : List Br} {p : Bool} {s : Nat} {out : List Int} (h : TlOK m bs p s out) {i : Nat} (hi : i < m) {x : Int} (h0 : 0 ≤ x) (hx : x < big → Wk bs p s i x) : TlOK m bs p s (out.set i (min (gt out i) x)) where
  len := by simp [h.len]
  low := fun j hj => by
    rw [gt_set (by rw [h.len]; exact hi)]
    have := h.low i hi
    have := h.low j hj
    split <;> omega
  wk := fun j hj hb => by
    rw [gt_set (by rw [h.len]; exact hi)] at hb ⊢
    split
    · rename_i e; subst e
      rw [if_pos rfl] at hb
      rcases (by omega : min (gt out i) x = gt out i ∨ min (gt out i) x = x) with e | e
      · rw [e] at hb ⊢; exact h.wk i hi hb
      · rw [e] at hb ⊢; exact hx hb
    · rename_i e; rw [if_neg e] at hb; exact h.wk j hj hb
theorem TlOK.rx1 {m : Nat} {bs : List Br} (hg : Good m bs) {p : Bool} {s : Nat} {out : List Int} (h : TlOK m bs p s out) {b : Br} (hb : b ∈ bs) : TlOK m bs p s (rx1 p out b) := by
  have hv := hg b hb
  have hw := wt_in hg p hb
  have := h.low b.2.1.toNat (by omega)
  exact h.put (by omega) (by omega) fun hx => .bwd hb (h.wk _ (by omega) (by omega))
theorem TlOK.rx2 {m : Nat} {bs : List Br} (hg : Good m bs) {p : Bool} {s : Nat} {out : List Int} (h : TlOK m bs p s out) {b : Br} (hb : b ∈ bs) : TlOK m bs p s (rx2 p out b) := by
  have hv := hg b hb
  have hw := wt_in hg p hb
  have := h.low b.1.toNat (by omega)
  exact h.put (by omega) (by omega) fun hx => .fwd hb (h.wk _ (by omega) (by omega))
theorem TlOK.rx {m : Nat} {bs : List Br} (hg : Good m bs) {p : Bool} {s : Nat} {out : List Int} (h : TlOK m bs p s out) {b : Br} (hb : b ∈ bs) : TlOK m bs p s (rx p out b) := (h.rx1 hg hb).rx2 hg hb
theorem TlOK.part {m : Nat} {bs : List Br} (hg : Good m bs) {p : Bool} {s : Nat} {cs : List Br} (hc : ∀ b ∈ cs, b ∈ bs) {out : List Int} (h : TlOK m bs p s out) : TlOK m bs p s (rnd p cs out) := by
  unfold rnd
  induction cs generalizing out with
  | nil => exact h
  | cons b cs ih => rw [List.foldl_cons]; exact ih (fun x hx => hc x (List.mem_cons_of_mem _ hx)) (h.rx hg (hc b (by simp)))
theorem TlOK.rnds {m : Nat} {bs : List Br} (hg : Good m bs) {p : Bool} {s : Nat} {out : List Int} (h : TlOK m bs p s out) (r : Nat) : TlOK m bs p s (rnds p bs r out) := by
  induction r with
  | zero => exact h
  | succ r ih => unfold Proofs.Ytdmgpbhbgeknfab.rnds; exact ih.part hg fun b hb => hb
theorem tl_ok {m : Nat} {bs : List Br} (hg : Good m bs) (p : Bool) {s : Nat} (hs : s < m) : TlOK m bs p s (tl m bs p s) := (tlOK_0 hs).rnds hg m

/-- nothing rises -/
def LeL (a b : List Int) : Prop := ∀ i, gt a i ≤ gt b i
theorem LeL.put {out : List Int} {i : Nat} {x : Int} (hi : i < out.length) : LeL (out.set i (min (gt out i) x)) out := fun j => by
  rw [gt_set hi]; split
  · rename_i e; subst e; omega
  · omega
theorem LeL.trans {a b c : List Int} (h : LeL a b) (h2 : LeL b c) : LeL a c := fun i => Int.le_trans (h i) (h2 i)
theorem rx_le {m : Nat} {bs : List Br} (hg : Good m bs) (p : Bool) {out : List Int} (hl : out.length = m) {b : Br} (hb : b ∈ bs) :
    LeL (rx p out b) out ∧ gt (rx p out b) b.1.toNat ≤ gt out b.2.1.toNat + wt p b ∧ gt (rx p out b) b.2.1.toNat ≤ gt out b.1.toNat + wt p b := by
  have hv := hg b hb
  have hw := wt_in hg p hb
  have l1 : LeL (rx1 p out b) out := LeL.put (by omega)
  have l2 : LeL (rx2 p (rx1 p out b) b) (rx1 p out b) := LeL.put (by simp [rx1]; omega)
  refine ⟨l2.trans l1, ?_, ?_⟩
  · refine Int.le_trans (l2 _) ?_
    unfold rx1
    rw [gt_set (by omega), if_pos rfl]; omega
  · show gt (rx2 p (rx1 p out b) b) b.2.1.toNat ≤ _
    unfold rx2
    rw [gt_set (by simp [rx1]; omega), if_pos rfl]
    have := l1 b.1.toNat
    omega
theorem rnd_le {m : Nat} {bs : List Br} (hg : Good m bs) (p : Bool) {cs : List Br} (hc : ∀ b ∈ cs, b ∈ bs) {out : List Int} (hl : out.length = m) :
    LeL (rnd p cs out) out ∧ ∀ b ∈ cs, gt (rnd p cs out) b.1.toNat ≤ gt out b.2.1.toNat + wt p b ∧ gt (rnd p cs out) b.2.1.toNat ≤ gt out b.1.toNat + wt p b := by
  unfold rnd
  induction cs generalizing out with
  | nil => exact ⟨fun i => Int.le_refl _, fun b hb => by cases hb⟩
  | cons b cs ih =>
    rw [List.foldl_cons]
    have h1 := rx_le hg p hl (hc b (by simp))
    have h2 := ih (out := rx p out b) (fun x hx => hc x (List.mem_cons_of_mem _ hx)) (by rw [rx_len]; exact hl)
    refine ⟨h2.1.trans h1.1, fun c hcm => ?_⟩
    rcases List.mem_cons.1 hcm with rfl | hcm
    · exact ⟨Int.le_trans (h2.1 _) h1.2.1, Int.le_trans (h2.1 _) h1.2.2⟩
    · have h3 := h2.2 c hcm
      have a := h1.1 c.1.toNat
      have b := h1.1 c.2.1.toNat
      constructor <;> omega

/-- island i has its least toll -/
def Stl (bs : List Br) (p : Bool) (s : Nat) (out : List Int) (i : Nat) : Prop := ∀ T, Wk bs p s i T → gt out i ≤ T
/-- a walk of least toll has an end that is settled, or leads over from a settled island to one that is not -/
theorem cross {m : Nat} {bs : List Br} (hg : Good m bs) {p : Bool} {s : Nat} {out : List Int} (hs : Stl bs p s out s) {i : Nat} {T : Int} (hw : Wk bs p s i T) (hl : ∀ U, Wk bs p s i U → T ≤ U) :
    Stl bs p s out i ∨ ∃ (u v : Nat) (b : Br) (U : Int), b ∈ bs ∧ ((u = b.1.toNat ∧ v = b.2.1.toNat) ∨ (u = b.2.1.toNat ∧ v = b.1.toNat)) ∧ Wk bs p s u U ∧ Stl bs p s out u ∧ ¬ Stl bs p s out v ∧ ∀ V, Wk bs p s v V → U + wt p b ≤ V := by
  induction hw with
  | here => exact .inl hs
  | @fwd T b hb hw ih =>
    have h1 : ∀ U, Wk bs p s b.1.toNat U → T ≤ U := fun U hU => by have := hl _ (.fwd hb hU); omega
    rcases ih h1 with h2 | h2
    · by_cases h3 : Stl bs p s out b.2.1.toNat
      · exact .inl h3
      · exact .inr ⟨_, _, b, T, hb, .inl ⟨rfl, rfl⟩, hw, h2, h3, hl⟩
    · exact .inr h2
  | @bwd T b hb hw ih =>
    have h1 : ∀ U, Wk bs p s b.2.1.toNat U → T ≤ U := fun U hU => by have := hl _ (.bwd hb hU); omega
    rcases ih h1 with h2 | h2
    · by_cases h3 : Stl bs p s out b.1.toNat
      · exact .inl h3
      · exact .inr ⟨_, _, b, T, hb, .inr ⟨rfl, rfl⟩, hw, h2, h3, hl⟩
    · exact .inr h2
theorem least_wk {m : Nat} {bs : List Br} (hg : Good m bs) {p : Bool} {s i : Nat} {T : Int} (hw : Wk bs p s i T) : ∃ U, Wk bs p s i U ∧ ∀ V, Wk bs p s i V → U ≤ V := by
  have key : ∀ n : Nat, ∀ T : Int, T.toNat = n → Wk bs p s i T → ∃ U, Wk bs p s i U ∧ ∀ V, Wk bs p s i V → U ≤ V := by
    intro n
    induction n using Nat.strongRecOn with
    | _ n ih =>
      intro T hT hw
      by_cases h : ∃ V, Wk bs p s i V ∧ V < T
      · obtain ⟨V, hV, hlt⟩ := h
        have := hV.pos hg
        exact ih V.toNat (by omega) V rfl hV
      · exact ⟨T, hw, fun V hV => by
          apply Classical.byContradiction
          intro h2
          exact h ⟨V, hV, by omega⟩⟩
  exact key _ T rfl hw
theorem cnt_more {p q : Nat → Bool} {n r : Nat} (hr : r < n) (h1 : p r = false) (h2 : q r = true) (h : ∀ i, i < n → p i = true → q i = true) : cnt p n + 1 ≤ cnt q n := by
  induction n with
  | zero => omega
  | succ n ih =>
    have hle : ∀ k, k ≤ n → cnt p k ≤ cnt q k := by
      intro k hk
      induction k with
      | zero => exact Nat.le_refl _
      | succ k ih2 =>
        unfold cnt
        have := ih2 (by omega)
        have h3 := h k (by omega)
        cases hp : p k
        · simp; omega
        · rw [h3 hp]; simp; omega
    unfold cnt
    by_cases e : r = n
    · subst e
      rw [h1, h2]
      have := hle r (Nat.le_refl _)
      simp; omega
    · have := ih (by omega) fun i hi hp => h i (by omega) hp
      have h3 := h n (by omega)
      cases hp : p n
      · simp; omega
      · rw [h3 hp]; simp; omega
open Classical in
theorem settle {m : Nat} {bs : List Br} (hg : Good m bs) {p : Bool} {s : Nat} (hs : s < m) : ∀ r, (∀ i, i < m → Stl bs p s (rnds p bs r (tl0 m s)) i) ∨ r + 1 ≤ cnt (fun i => decide (Stl bs p s (rnds p bs r (tl0 m s)) i)) m
  | 0 => by
    right
    refine cnt_pos hs ?_
    simp only [decide_eq_true_eq]
    intro T hT
    show gt (tl0 m s) s ≤ T
    unfold tl0
    rw [gt_set (by simpa using hs), if_pos rfl]
    exact hT.pos hg
  | r + 1 => by
    have hlen : (rnds p bs r (tl0 m s)).length = m := by rw [rnds_len]; simp [tl0]
    have hR := rnd_le hg p (cs := bs) (fun b hb => hb) hlen
    have hmono : ∀ i, Stl bs p s (rnds p bs r (tl0 m s)) i → Stl bs p s (rnds p bs (r + 1) (tl0 m s)) i := fun i h T hT => Int.le_trans (hR.1 i) (h T hT)
    rcases settle hg hs r with h | h
    · exact .inl fun i hi => hmono i (h i hi)
    · by_cases hall : ∀ i, i < m → Stl bs p s (rnds p bs r (tl0 m s)) i
      · exact .inl fun i hi => hmono i (hall i hi)
      right
      have hs0 : Stl bs p s (rnds p bs r (tl0 m s)) s := by
        have : ∀ r, gt (rnds p bs r (tl0 m s)) s ≤ 0 := by
          intro r
          induction r with
          | zero =>
            show gt (tl0 m s) s ≤ 0
            unfold tl0; rw [gt_set (by simpa using hs), if_pos rfl]; exact Int.le_refl _
          | succ r ih => exact Int.le_trans ((rnd_le hg p (cs := bs) (fun b hb => hb) (by rw [rnds_len]; simp [tl0])).1 s) ih
        intro T hT
        have := this r
        have := hT.pos hg
        omega
      obtain ⟨i, hi⟩ : ∃ i, ¬ (i < m → Stl bs p s (rnds p bs r (tl0 m s)) i) := Classical.not_forall.1 hall
      obtain ⟨him, hns⟩ : i < m ∧ ¬ Stl bs p s (rnds p bs r (tl0 m s)) i := by
        refine ⟨Classical.byContradiction fun h2 => hi fun h3 => absurd h3 h2, fun h2 => hi fun _ => h2⟩
      obtain ⟨T, hT⟩ : ∃ T, Wk bs p s i T := by
        apply Classical.byContradiction
        intro h2
        exact hns fun T hT => absurd ⟨T, hT⟩ h2
      obtain ⟨U, hU, hl⟩ := least_wk hg hT
      rcases cross hg hs0 hU hl with h2 | ⟨u, v, b, U', hb, huv, hWu, hSu, hSv, hlv⟩
      · exact absurd h2 hns
      · have hv := hg b hb
        have hvm : v < m := by rcases huv with ⟨_, e⟩ | ⟨_, e⟩ <;> omega
        have hnew : Stl bs p s (rnds p bs (r + 1) (tl0 m s)) v := by
          intro V hV
          have h3 := hlv V hV
          have h4 := hSu U' hWu
          have h5 := hR.2 b hb
          show gt (rnd p bs (rnds p bs r (tl0 m s))) v ≤ V
          rcases huv with ⟨e1, e2⟩ | ⟨e1, e2⟩
          · rw [e2]; rw [e1] at h4; omega
          · rw [e2]; rw [e1] at h4; omega
        have := cnt_more (p := fun i => decide (Stl bs p s (rnds p bs r (tl0 m s)) i)) (q := fun i => decide (Stl bs p s (rnds p bs (r + 1) (tl0 m s)) i)) hvm (by simpa using hSv) (by simpa using hnew) (fun i _ h => by simp only [decide_eq_true_eq] at h ⊢; exact hmono i h)
        omega
/-- behind m rounds all have their least tolls -/
theorem tl_le {m : Nat} {bs : List Br} (hg : Good m bs) {p : Bool} {s i : Nat} (hs : s < m) (hi : i < m) {T : Int} (hw : Wk bs p s i T) : gt (tl m bs p s) i ≤ T := by
  rcases settle hg (p := p) hs m with h | h
  · exact h i hi T hw
  · exact absurd h (by have := cnt_le (fun i => @decide (Stl bs p s (rnds p bs m (tl0 m s)) i) (Classical.propDecidable _)) m; omega)
end Go.Proofs.Ytdmgpbhbgeknfab
