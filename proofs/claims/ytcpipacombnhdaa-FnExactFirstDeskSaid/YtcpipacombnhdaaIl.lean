/- Isles: bridges; the groups of islands, told by the least island of each: plain. -/
import Derived.Test.YtcpipacombnhdaaSl
namespace Go.Proofs.Ytcpipacombnhdaa
set_option linter.unusedVariables false
open Go.RowKit

/-- a bridge: its two islands and its toll -/
abbrev Br := Int × Int × Int
def gb (bs : List Br) (j : Nat) : Br := bs.getD j (0, 0, 0)
theorem gb_mem {bs : List Br} {j : Nat} (h : j < bs.length) : gb bs j ∈ bs := by
  have e : gb bs j = bs[j] := by simp [gb, h]
  rw [e]; exact List.getElem_mem _
theorem mem_gb {bs : List Br} {b : Br} (h : b ∈ bs) : ∃ j, j < bs.length ∧ gb bs j = b := by
  obtain ⟨j, hj, rfl⟩ := List.getElem_of_mem h
  exact ⟨j, hj, by simp [gb, hj]⟩
/-- b is a bridge for so many islands -/
def isBr (n : Int) (b : Br) : Bool := decide (0 ≤ b.1) && decide (b.1 < b.2.1) && decide (b.2.1 < n) && decide (0 ≤ b.2.2) && decide (b.2.2 ≤ 1000)
theorem isBr_iff {n : Int} {b : Br} : isBr n b = true ↔ 0 ≤ b.1 ∧ b.1 < b.2.1 ∧ b.2.1 < n ∧ 0 ≤ b.2.2 ∧ b.2.2 ≤ 1000 := by
  simp [isBr, and_assoc]
/-- there are isles -/
def areIs (n : Int) (bs : List Br) : Bool := decide (1 ≤ n) && decide (n ≤ 7) && decide (bs.length ≤ 14) && bs.all (isBr n)
/-- all bridges are for n islands -/
def Good (n : Nat) (bs : List Br) : Prop := ∀ b ∈ bs, 0 ≤ b.1 ∧ b.1 < b.2.1 ∧ b.2.1 < (n : Int) ∧ 0 ≤ b.2.2 ∧ b.2.2 ≤ 1000
theorem areIs_iff {n : Int} {bs : List Br} : areIs n bs = true ↔ 1 ≤ n ∧ n ≤ 7 ∧ bs.length ≤ 14 ∧ ∀ b ∈ bs, isBr n b = true := by
  simp [areIs, and_assoc]
theorem areIs_in {n : Int} {bs : List Br} (h : areIs n bs = true) : ∃ m : Nat, n = m ∧ 1 ≤ m ∧ m ≤ 7 ∧ bs.length ≤ 14 ∧ Good m bs := by
  obtain ⟨h1, h2, h3, h4⟩ := areIs_iff.1 h
  refine ⟨n.toNat, by omega, by omega, by omega, h3, fun b hb => ?_⟩
  have := isBr_iff.1 (h4 b hb)
  omega
theorem Good.sub {n : Nat} {bs cs : List Br} (h : Good n bs) (hs : ∀ b ∈ cs, b ∈ bs) : Good n cs := fun b hb => h b (hs b hb)
theorem Good.nil (n : Nat) : Good n [] := fun b hb => by cases hb
theorem Good.at {n : Nat} {bs : List Br} (h : Good n bs) {j : Nat} (hj : j < bs.length) : 0 ≤ (gb bs j).1 ∧ (gb bs j).1 < (gb bs j).2.1 ∧ (gb bs j).2.1 < (n : Int) ∧ 0 ≤ (gb bs j).2.2 ∧ (gb bs j).2.2 ≤ 1000 := h _ (gb_mem hj)

theorem gt_map {f : Int → Int} {l : List Int} {i : Nat} (h : i < l.length) : gt (l.map f) i = f (gt l i) := by simp [gt, h]
/-- numbers of islands as Go has them -/
def lab0 (n : Nat) : List Int := (List.range n).map fun (i : Nat) => (i : Int)
theorem lab0_len (n : Nat) : (lab0 n).length = n := by simp [lab0]
theorem lab0_at {n i : Nat} (h : i < n) : gt (lab0 n) i = i := by simp [lab0, gt, h]
theorem lab0_succ (n : Nat) : lab0 (n + 1) = lab0 n ++ [(n : Int)] := by simp [lab0, List.range_succ]
/-- the label of a bridge's island -/
def la (out : List Int) (b : Br) : Int := gt out b.1.toNat
def lb (out : List Int) (b : Br) : Int := gt out b.2.1.toNat
def joinB (out : List Int) (b : Br) : List Int := out.map fun z => if z = max (la out b) (lb out b) then min (la out b) (lb out b) else z
/-- for each island the least one of its group -/
def lab (n : Nat) (bs : List Br) : List Int := bs.foldl joinB (lab0 n)
theorem joinB_len (out : List Int) (b : Br) : (joinB out b).length = out.length := by simp [joinB]
theorem joinB_at {out : List Int} {b : Br} {i : Nat} (h : i < out.length) : gt (joinB out b) i = if gt out i = max (la out b) (lb out b) then min (la out b) (lb out b) else gt out i := by
  unfold joinB; rw [gt_map h]
theorem lab_snoc (n : Nat) (bs : List Br) (b : Br) : lab n (bs ++ [b]) = joinB (lab n bs) b := by simp [lab, List.foldl_append]
theorem lab_nil (n : Nat) : lab n [] = lab0 n := rfl

structure LabOK (n : Nat) (bs : List Br) (out : List Int) : Prop where
  len : out.length = n
  ok : ∀ b ∈ bs, b.1.toNat < n ∧ b.2.1.toNat < n
  low : ∀ i, i < n → 0 ≤ gt out i ∧ gt out i ≤ i
  idem : ∀ i, i < n → gt out (gt out i).toNat = gt out i
  br : ∀ b ∈ bs, la out b = lb out b
  inv : ∀ f : Nat → Prop, (∀ b ∈ bs, (f b.1.toNat ↔ f b.2.1.toNat)) → ∀ i, i < n → (f (gt out i).toNat ↔ f i)

theorem labOK_0 (n : Nat) : LabOK n [] (lab0 n) where
  len := lab0_len n
  ok := fun b h => by cases h
  low := fun i h => by rw [lab0_at h]; omega
  idem := fun i h => by rw [lab0_at h, Int.toNat_natCast, lab0_at h]
  br := fun b h => by cases h
  inv := fun f _ i h => by rw [lab0_at h, Int.toNat_natCast]

theorem labOK_step {n : Nat} {bs : List Br} {out : List Int} (h : LabOK n bs out) {b : Br} (ha : b.1.toNat < n) (hb : b.2.1.toNat < n) : LabOK n (bs ++ [b]) (joinB out b) := by
  obtain ⟨x, hx⟩ : ∃ x, x = la out b := ⟨_, rfl⟩
  obtain ⟨y, hy⟩ : ∃ y, y = lb out b := ⟨_, rfl⟩
  have X1 := h.low _ ha
  have Y1 := h.low _ hb
  have X2 := h.idem _ ha
  have Y2 := h.idem _ hb
  have hx' : gt out b.1.toNat = x := hx.symm
  have hy' : gt out b.2.1.toNat = y := hy.symm
  rw [hx'] at X1 X2
  rw [hy'] at Y1 Y2
  have at_ : ∀ i, i < n → gt (joinB out b) i = if gt out i = max x y then min x y else gt out i := fun i hi => by
    rw [joinB_at (by rw [h.len]; exact hi), hx, hy]
  have MX : max x y = x ∨ max x y = y := by omega
  have MN : min x y = x ∨ min x y = y := by omega
  have LH : min x y ≤ max x y := by omega
  have LL0 : 0 ≤ min x y := by omega
  have LN : (min x y).toNat < n := by omega
  have GL : gt out (min x y).toNat = min x y := by rcases MN with e | e <;> rw [e] <;> assumption
  refine ⟨by rw [joinB_len]; exact h.len, fun c hc => ?_, fun i hi => ?_, fun i hi => ?_, fun c hc => ?_, fun f hf i hi => ?_⟩
  · rcases List.mem_append.1 hc with hc | hc
    · exact h.ok c hc
    · obtain rfl : c = b := by simpa using hc
      exact ⟨ha, hb⟩
  · rw [at_ i hi]
    have := h.low i hi
    split <;> omega
  · have hl := h.low i hi
    have hid := h.idem i hi
    rw [at_ i hi]
    split
    · rw [at_ _ LN, GL]
      split
      · rfl
      · rfl
    · rename_i hne
      rw [at_ _ (by omega), hid, if_neg hne]
  · rcases List.mem_append.1 hc with hc | hc
    · have e : gt out c.1.toNat = gt out c.2.1.toNat := h.br c hc
      have hc2 := h.ok c hc
      show gt (joinB out b) c.1.toNat = gt (joinB out b) c.2.1.toNat
      rw [at_ _ hc2.1, at_ _ hc2.2, e]
    · obtain rfl : c = b := by simpa using hc
      show gt (joinB out c) c.1.toNat = gt (joinB out c) c.2.1.toNat
      rw [at_ _ ha, at_ _ hb, hx', hy']
      rcases MX with e | e <;> rw [e] <;> (split <;> split <;> omega)
  · have h0 := fun i hi => h.inv f (fun c hc => hf c (List.mem_append_left _ hc)) i hi
    have hb0 := hf b (by simp)
    have FX : f x.toNat ↔ f b.1.toNat := by have := h0 _ ha; rw [hx'] at this; exact this
    have FY : f y.toNat ↔ f b.2.1.toNat := by have := h0 _ hb; rw [hy'] at this; exact this
    have FM : f (min x y).toNat ↔ f (max x y).toNat := by
      rcases MN with e | e <;> rcases MX with e' | e' <;> rw [e, e']
      · rw [FX, FY]; exact hb0
      · rw [FX, FY]; exact hb0.symm
    rw [at_ i hi]
    split
    · rename_i e
      rw [FM, ← e]; exact h0 i hi
    · exact h0 i hi

theorem labOK {n : Nat} {bs : List Br} (h : Good n bs) : LabOK n bs (lab n bs) := by
  have : ∀ cs ds : List Br, bs = cs ++ ds → LabOK n cs (lab n cs) → LabOK n bs (lab n bs) := by
    intro cs ds
    induction ds generalizing cs with
    | nil => intro e h1; rw [List.append_nil] at e; subst e; exact h1
    | cons d ds ih =>
      intro e h1
      have hd := h d (by rw [e]; simp)
      refine ih (cs ++ [d]) (by rw [e]; simp) ?_
      rw [lab_snoc]
      exact labOK_step h1 (by omega) (by omega)
  exact this [] bs rfl (labOK_0 n)
theorem lab_len (n : Nat) (bs : List Br) : (lab n bs).length = n := by
  have : ∀ (ds : List Br) (out : List Int), (ds.foldl joinB out).length = out.length := by
    intro ds
    induction ds with
    | nil => intro out; rfl
    | cons d ds ih => intro out; rw [List.foldl_cons, ih, joinB_len]
  unfold lab; rw [this, lab0_len]
/-- two islands of one group -/
def same (n : Nat) (bs : List Br) (i j : Nat) : Bool := decide (gt (lab n bs) i = gt (lab n bs) j)
theorem same_br {n : Nat} {bs : List Br} (h : Good n bs) {b : Br} (hb : b ∈ bs) : same n bs b.1.toNat b.2.1.toNat = true := by
  have := (labOK h).br b hb
  simpa [same, la, lb] using this
theorem same_inv {n : Nat} {bs : List Br} (h : Good n bs) {f : Nat → Prop} (hf : ∀ b ∈ bs, (f b.1.toNat ↔ f b.2.1.toNat)) {i j : Nat} (hi : i < n) (hj : j < n) (hs : same n bs i j = true) : f i ↔ f j := by
  have e : gt (lab n bs) i = gt (lab n bs) j := by simpa [same] using hs
  rw [← (labOK h).inv f hf i hi, ← (labOK h).inv f hf j hj, e]
theorem same_refl (n : Nat) (bs : List Br) (i : Nat) : same n bs i i = true := by simp [same]
theorem same_symm {n : Nat} {bs : List Br} {i j : Nat} (h : same n bs i j = true) : same n bs j i = true := by
  have e : gt (lab n bs) i = gt (lab n bs) j := by simpa [same] using h
  simp [same, e]
theorem same_trans {n : Nat} {bs : List Br} {i j k : Nat} (h : same n bs i j = true) (h2 : same n bs j k = true) : same n bs i k = true := by
  have e : gt (lab n bs) i = gt (lab n bs) j := by simpa [same] using h
  have e2 : gt (lab n bs) j = gt (lab n bs) k := by simpa [same] using h2
  simp [same, e, e2]

/-- how many of the first n numbers have a property -/
def cnt (p : Nat → Bool) : Nat → Nat
  | 0 => 0
  | n + 1 => cnt p n + if p n then 1 else 0
theorem cnt_le (p : Nat → Bool) (n : Nat) : cnt p n ≤ n := by
  induction n with
  | zero => exact Nat.le_refl _
  | succ n ih => unfold cnt; split <;> omega
theorem cnt_congr {p q : Nat → Bool} {n : Nat} (h : ∀ i, i < n → p i = q i) : cnt p n = cnt q n := by
  induction n with
  | zero => rfl
  | succ n ih => unfold cnt; rw [ih fun i hi => h i (by omega), h n (by omega)]
theorem cnt_less {p q : Nat → Bool} {n r : Nat} (hr : r < n) (h1 : p r = true) (h2 : q r = false) (h : ∀ i, i < n → i ≠ r → p i = q i) : cnt p n = cnt q n + 1 := by
  induction n with
  | zero => omega
  | succ n ih =>
    unfold cnt
    by_cases e : r = n
    · subst e
      rw [h1, h2, cnt_congr fun i hi => h i (by omega) (by omega)]; simp
    · rw [ih (by omega) fun i hi hne => h i (by omega) hne, h n (by omega) (by omega)]; split <;> omega
theorem cnt_all {p : Nat → Bool} {n : Nat} (h : ∀ i, i < n → p i = true) : cnt p n = n := by
  induction n with
  | zero => rfl
  | succ n ih => unfold cnt; rw [ih fun i hi => h i (by omega), h n (by omega)]; simp
theorem cnt_none {p : Nat → Bool} {n : Nat} (h : ∀ i, i < n → p i = false) : cnt p n = 0 := by
  induction n with
  | zero => rfl
  | succ n ih => unfold cnt; rw [ih fun i hi => h i (by omega), h n (by omega)]; simp
theorem cnt_pos {p : Nat → Bool} {n r : Nat} (hr : r < n) (h : p r = true) : 1 ≤ cnt p n := by
  induction n with
  | zero => omega
  | succ n ih =>
    unfold cnt
    by_cases e : r = n
    · subst e; rw [h]; simp
    · have := ih (by omega); omega
theorem cnt_one {p : Nat → Bool} {n r s : Nat} (hr : r < n) (hs : s < n) (h1 : p r = true) (h2 : p s = true) (h : cnt p n ≤ 1) : r = s := by
  rcases Nat.lt_trichotomy r s with hlt | e | hlt
  · exfalso
    have : cnt p n = cnt (fun i => p i && i != r) n + 1 := cnt_less hr h1 (by simp) (fun i _ hne => by simp [hne])
    have h3 : 1 ≤ cnt (fun i => p i && i != r) n := cnt_pos hs (by simp [h2]; omega)
    omega
  · exact e
  · exfalso
    have : cnt p n = cnt (fun i => p i && i != s) n + 1 := cnt_less hs h2 (by simp) (fun i _ hne => by simp [hne])
    have h3 : 1 ≤ cnt (fun i => p i && i != s) n := cnt_pos hr (by simp [h1]; omega)
    omega

/-- island i is the least one of its group -/
def root (out : List Int) (i : Nat) : Bool := decide (gt out i = (i : Int))
/-- how many groups there are -/
def groupsN (n : Nat) (bs : List Br) : Nat := cnt (root (lab n bs)) n
theorem groups_le (n : Nat) (bs : List Br) : groupsN n bs ≤ n := cnt_le _ _
theorem groups_0 (n : Nat) : groupsN n [] = n := cnt_all fun i hi => by simp [root, lab_nil, lab0_at hi]
theorem groups_step {n : Nat} {bs : List Br} (h : Good n bs) {b : Br} (ha : b.1.toNat < n) (hb : b.2.1.toNat < n) :
    groupsN n bs = groupsN n (bs ++ [b]) + if same n bs b.1.toNat b.2.1.toNat then 0 else 1 := by
  have H := labOK h
  unfold groupsN
  rw [lab_snoc]
  obtain ⟨out, hout⟩ : ∃ out, out = lab n bs := ⟨_, rfl⟩
  have hs : same n bs b.1.toNat b.2.1.toNat = decide (la out b = lb out b) := by rw [hout]; rfl
  rw [hs]
  rw [← hout] at H ⊢
  have at_ : ∀ i, i < n → gt (joinB out b) i = if gt out i = max (la out b) (lb out b) then min (la out b) (lb out b) else gt out i := fun i hi => joinB_at (by rw [H.len]; exact hi)
  have X1 := H.low _ ha
  have Y1 := H.low _ hb
  have X2 := H.idem _ ha
  have Y2 := H.idem _ hb
  have ex : gt out b.1.toNat = la out b := rfl
  have ey : gt out b.2.1.toNat = lb out b := rfl
  rw [ex] at X1 X2
  rw [ey] at Y1 Y2
  generalize la out b = x at *
  generalize lb out b = y at *
  by_cases e : x = y
  · subst e
    simp only [decide_true, if_true, Nat.add_zero]
    refine cnt_congr fun i hi => ?_
    unfold root
    rw [at_ i hi]
    have e1 : max x x = x := by omega
    have e2 : min x x = x := by omega
    rw [e1, e2]
    split
    · rename_i e; rw [e]
    · rfl
  · have hd : decide (x = y) = false := by simpa using e
    rw [hd]
    have hm : (max x y).toNat < n := by omega
    have hg : gt out (max x y).toNat = max x y := by
      rcases (by omega : max x y = x ∨ max x y = y) with e | e <;> rw [e] <;> assumption
    refine cnt_less hm ?_ ?_ ?_
    · unfold root; rw [hg]; simp; omega
    · unfold root; rw [at_ _ hm, hg, if_pos rfl]; simp; omega
    · intro i hi hne
      unfold root
      rw [at_ i hi]
      split
      · rename_i e1
        have h1 : ¬ gt out i = (i : Int) := by omega
        have h2 : ¬ min x y = (i : Int) := by
          intro h2
          have : gt out i = min x y := by
            have hl : gt out (min x y).toNat = min x y := by
              rcases (by omega : min x y = x ∨ min x y = y) with e | e <;> rw [e] <;> assumption
            have e3 : (min x y).toNat = i := by omega
            rw [e3] at hl; exact hl
          omega
        simp [h1, h2]
      · rfl
theorem groups_ge {n : Nat} {bs : List Br} (h : Good n bs) : n ≤ groupsN n bs + bs.length := by
  have : ∀ cs ds : List Br, bs = cs ++ ds → n ≤ groupsN n cs + cs.length → n ≤ groupsN n bs + bs.length := by
    intro cs ds
    induction ds generalizing cs with
    | nil => intro e h1; rw [List.append_nil] at e; subst e; exact h1
    | cons d ds ih =>
      intro e h1
      have hd := h d (by rw [e]; simp)
      refine ih (cs ++ [d]) (by rw [e]; simp) ?_
      have := groups_step (h.sub (cs := cs) (by intro b hb; rw [e]; exact List.mem_append_left _ hb)) (b := d) (by omega) (by omega)
      simp only [List.length_append, List.length_cons, List.length_nil]
      split at this <;> omega
  exact this [] bs rfl (by rw [groups_0]; simp)
theorem groups_pos {n : Nat} {bs : List Br} (h : Good n bs) (hn : 1 ≤ n) : 1 ≤ groupsN n bs := by
  refine cnt_pos (r := 0) (by omega) ?_
  have := (labOK h).low 0 (by omega)
  simp [root]; omega
/-- just one group: all are of one group -/
theorem groups_one {n : Nat} {bs : List Br} (h : Good n bs) (h1 : groupsN n bs ≤ 1) {i j : Nat} (hi : i < n) (hj : j < n) : same n bs i j = true := by
  have H := labOK h
  have a := H.low i hi
  have b := H.low j hj
  have c := H.idem i hi
  have d := H.idem j hj
  have := cnt_one (p := root (lab n bs)) (n := n) (r := (gt (lab n bs) i).toNat) (s := (gt (lab n bs) j).toNat) (by omega) (by omega) (by unfold root; rw [c]; simp; omega) (by unfold root; rw [d]; simp; omega) h1
  simp [same]; omega
theorem groups_one' {n : Nat} {bs : List Br} (h : Good n bs) (hs : ∀ i, i < n → same n bs 0 i = true) : groupsN n bs ≤ 1 := by
  rcases Nat.eq_zero_or_pos n with e | e
  · subst e; exact Nat.le_trans (groups_le _ _) (by omega)
  have H := labOK h
  have h0 : gt (lab n bs) 0 = 0 := by have := H.low 0 e; omega
  have : cnt (root (lab n bs)) n = cnt (fun i => i == 0) n := cnt_congr fun i hi => by
    have h1 : gt (lab n bs) 0 = gt (lab n bs) i := by simpa [same] using hs i hi
    unfold root
    rw [← h1, h0, Bool.eq_iff_iff]; simp; omega
  unfold groupsN
  rw [this, cnt_less (r := 0) (q := fun _ => false) e (by simp) rfl (fun i _ hne => by simp [hne]), cnt_none fun _ _ => rfl]
  exact Nat.le_refl _
/-- the group of an island, increasing -/
def groupL (n : Nat) (bs : List Br) (i : Nat) : List Nat := (List.range n).filter fun j => same n bs j i
theorem groupL_mem {n : Nat} {bs : List Br} {i j : Nat} : j ∈ groupL n bs i ↔ j < n ∧ same n bs j i = true := by simp [groupL]
end Go.Proofs.Ytcpipacombnhdaa
