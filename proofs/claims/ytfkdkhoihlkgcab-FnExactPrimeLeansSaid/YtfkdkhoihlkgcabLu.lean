/- append(lists, lists...); LeansUpTo, impl's side. -/
import Derived.Test.YtfkdkhoihlkgcabWl
import Derived.Laws.AppendOwnNone
namespace Go.Proofs.Ytfkdkhoihlkgcab
set_option linter.unusedVariables false
open Go.RowKit

theorem Lst.cat {w1 w2 w' : World} {B : Nat} {v v2 v' : Value} {zss zss2 : List (List Int)} {us us2 : List Value} (h1 : Lst w1 B v zss us) (h2 : Lst w2 w1.heap.size v2 zss2 us2)
    (hv : w'.ownsRow B 41 1 v' (zss ++ zss2).length (us ++ us2)) (hold : ∀ j, j < zss.length → Ints w' B (gu us j) (gl zss j)) (hnew : ∀ j, j < zss2.length → Ints w' B (gu us2 j) (gl zss2 j)) : Lst w' B v' (zss ++ zss2) (us ++ us2) := by
  have hl := h1.len
  have ga : ∀ j, j < zss.length → gu (us ++ us2) j = gu us j := fun j hj => by
    simp only [gu, List.getD_eq_getElem?_getD]; rw [List.getElem?_append_left (by omega)]
  have gb : ∀ j, zss.length ≤ j → gu (us ++ us2) j = gu us2 (j - zss.length) := fun j hj => by
    simp only [gu, List.getD_eq_getElem?_getD]; rw [List.getElem?_append_right (by omega), hl]
  refine ⟨hv, fun j hj => ?_, fun i j k hij hj hk => ?_⟩
  · by_cases e : j < zss.length
    · rw [ga j e]
      have : gl (zss ++ zss2) j = gl zss j := by simp only [gl, List.getD_eq_getElem?_getD]; rw [List.getElem?_append_left e]
      rw [this]; exact hold j e
    · rw [gb j (by omega)]
      have : gl (zss ++ zss2) j = gl zss2 (j - zss.length) := by simp only [gl, List.getD_eq_getElem?_getD]; rw [List.getElem?_append_right (by omega)]
      rw [this]; exact hnew _ (by simp at hj; omega)
  · have hj2 : j < zss.length + zss2.length := by simpa using hj
    by_cases e : j < zss.length
    · rw [ga j e]
      rw [ga i (by omega)] at hk
      exact h1.2.2 i j k hij e hk
    · rw [gb j (by omega)]
      by_cases e2 : i < zss.length
      · rw [ga i e2] at hk
        have h3 := (h1.blk e2 hk).2
        intro e3
        have := (h2.blk (j := j - zss.length) (by omega) e3).1
        omega
      · rw [gb i (by omega)] at hk
        exact h2.2.2 (i - zss.length) (j - zss.length) k (by omega) (by omega) hk
set_option maxRecDepth 100000 in
/-- 'append(lists, more...)' -/
theorem wpList_catS {ops : Array Oper} {rest : List Oper} {o : Oper} {a : Act} {Q : Exit → Act → World → Prop} (w1 w2 : World) (hgd : o.guard = none) (s x : Operand)
    (ho : o.op = .call { callee := .builtin .append, args := #[s, x], argTypes := #[32, 32] })
    (B : Nat) (v v2 : Value) (zss zss2 : List (List Int)) (us us2 : List Value) (hs : a.eval s = v) (hI : Lst w1 B v zss us) (h12 : Below w1.heap.size w1 w2) (hx : a.eval x = v2) (hI2 : Lst w2 w1.heap.size v2 zss2 us2)
    (hl : zss.length + zss2.length < 1000000) (hB : B ≤ w1.heap.size)
    (h : ∀ v' w', Lst w' B v' (zss ++ zss2) (us ++ us2) → Below B w2 w' → wpList Try.prog ops Q rest (a.put o.dst v') w') : wpList Try.prog ops Q (o :: rest) a w2 := by
  obtain ⟨i0, hi, hz0, hz1, hz2⟩ := info_parts Try.infoRowI
  have h1 := rowS_below hI.1 h12
  have hlt : ∀ b, v.ownBlock = some b → B ≤ b := fun b hb => (World.ownsRow.lt h1 b hb).1
  rcases hI2.1.2 with ⟨rfl, h0⟩ | ⟨g2, cap, cur, rfl, hb, hg, hnc, hcm, hcs, ht⟩
  · have hz : zss2 = [] := List.length_eq_zero_iff.1 h0
    have hu : us2 = [] := List.length_eq_zero_iff.1 (by rw [hI2.len]; exact h0)
    subst hz hu
    refine wpList_append_own_none hgd s x 32 ho B 41 i0 1 Try.underlying32 hi v zss.length us hs h1 hx ?_
    refine h _ _ ?_ (Below.refl _ _)
    rw [List.append_nil, List.append_nil]
    exact hI.below h12
  · refine wpList_append_own _ hgd s x 32 ho B 41 i0 (.slice none 0 0) 1 24 Try.underlying32 hi hz0 hz1 hz2 rfl (by decide) v zss.length us hs h1 ⟨g2, 0, none⟩ zss2.length cap us2 hx (by rw [hI2.len]; omega)
      (fun j u hj => by
        have hjl : j < us2.length := (List.getElem?_eq_some_iff.1 hj).1
        have := World.ownsRow.cellAt hI2.1 j (by rw [hI2.len] at hjl; omega)
        rw [show (⟨g2, 0, none⟩ : Addr).add j = ⟨g2, j, none⟩ by (simp [Addr.add]; try omega), this]
        exact hj)
      (fun u hu => by
        obtain ⟨j, hj, e⟩ := List.getElem_of_mem hu
        have := oneS (hI2.2.1 j (by rw [← hI2.len]; exact hj))
        rwa [show gu us2 j = u by simp [gu, hj, e]] at this) (by unfold maxLen; omega) (by omega) (Nat.le_trans hB h12.size) ?_
    intro v' w' h4 h5 _
    refine h v' w' (hI.cat hI2 (by rw [List.length_append]; exact h4) (fun j hj => ?_) fun j hj => ?_) ((Below.refl _ _).grown h5 (Nat.le_trans hB h12.size) hlt)
    · exact ((hI.2.1 j hj).below h12).kept h5 (rowS_ne h1 ((hI.2.1 j hj).below h12))
    · exact (ints_mono' (hI2.2.1 j hj) hB).kept h5 (rowS_ne h1 (hI2.2.1 j hj))
/-- whether it counts, where only those without a common divisor do -/
def gok (pr : Bool) (s : Int × Int) : Bool := !pr || decide (Nat.gcd s.1.toNat s.2.toNat = 1)
/-- the leans of all planks up to one -/
def ltG (pr : Bool) : Nat → List (List Int)
  | 0 => []
  | n + 1 => ltG pr n ++ ((lns ((n : Int) + 1)).filter (gok pr)).map (l3 ((n : Int) + 1))
theorem ltG_len (pr : Bool) (n : Nat) : (ltG pr n).length ≤ 200 * n := by
  induction n with
  | zero => simp [ltG]
  | succ n ih =>
    have h1 := List.length_filter_le (gok pr) (lns ((n : Int) + 1))
    have h2 := lns_len ((n : Int) + 1)
    simp only [ltG, List.length_append, List.length_map]
    omega
theorem gok_no (l : List (Int × Int)) : l.filter (gok false) = l := by
  rw [List.filter_eq_self]; intro a _; rfl
def upL (pr : Bool) (m : Int) : List (List Int) := if isPl m then ltG pr m.toNat else []
theorem upL_no {pr : Bool} {m : Int} (h : isPl m = false) : upL pr m = [] := by simp [upL, h]
theorem upL_yes {pr : Bool} {m : Int} (h : isPl m = true) : upL pr m = ltG pr m.toNat := by simp [upL, h]
theorem upL_len (pr : Bool) (m : Int) : (upL pr m).length ≤ 40000 := by
  cases h : isPl m
  · rw [upL_no h]; simp
  · rw [upL_yes h]
    have := ltG_len pr m.toNat
    have := isPl_in h
    omega
theorem ltG_row (pr : Bool) (n : Nat) : ∀ r ∈ ltG pr n, r.length ≤ 3 := by
  induction n with
  | zero => intro r h; cases h
  | succ n ih =>
    intro r h
    simp only [ltG, List.mem_append, List.mem_map] at h
    rcases h with h | ⟨s, _, rfl⟩
    · exact ih r h
    · simp [l3]
theorem gl_le {zss : List (List Int)} {m : Nat} (h : ∀ r ∈ zss, r.length ≤ m) (j : Nat) : (gl zss j).length ≤ m := by
  simp only [gl, List.getD_eq_getElem?_getD]
  cases e : zss[j]? with
  | none => simp
  | some r => exact h r (List.mem_of_getElem? e)
theorem totS_le2 {zss : List (List Int)} {m : Nat} (h : ∀ r ∈ zss, r.length ≤ m) : totS zss ≤ m * zss.length := by
  induction zss with
  | nil => simp [totS]
  | cons r l ih =>
    have h1 := h r (List.mem_cons_self ..)
    have h2 := ih fun s hs => h s (List.mem_cons_of_mem _ hs)
    simp only [totS, List.length_cons]; rw [Nat.mul_succ]; omega
theorem upL_all (pr : Bool) (m : Int) : ∀ r ∈ upL pr m, r.length ≤ 3 := by
  cases h : isPl m
  · rw [upL_no h]; intro r h; cases h
  · rw [upL_yes h]; exact ltG_row pr _
theorem upL_row (pr : Bool) (m : Int) (j : Nat) : (gl (upL pr m) j).length ≤ 1000 := Nat.le_trans (gl_le (upL_all pr m) j) (by omega)
theorem upL_tot (pr : Bool) (m : Int) : totS (upL pr m) ≤ 1000000 := by
  have h1 := totS_le2 (upL_all pr m)
  have h2 := upL_len pr m
  omega
set_option maxHeartbeats 2000000 in
theorem implUpTo (m : Int) (w : World) : Calls Try.prog 24 #[.int .i64 m] w (LstC w.heap.size (upL false m) (isPl m) w) := by
  have HA := Lib.hid (fun wx => isLong m wx)
  cases h : isPl m
  · have JL := Lib.hid (upL_no (pr := false) h)
    rw [h] at HA
    clear h
    go_enter Try.func24, Try.ntmps24
    go_wp2_with (go_at_call 28; (with_reducible refine (HA.out _).mono ?_); rintro e w' ⟨rfl, rfl⟩)
    go_ret2
    exact ⟨_, rfl, ⟨[], by rw [JL.out]; exact Lst.nil _ _⟩, Below.refl _ _⟩
  · have JL := Lib.hid (upL_yes (pr := false) h)
    have hm := isPl_in h
    rw [h] at HA
    clear h
    have N0 := Lib.hid (show Lst w w.heap.size (.slice none 0 0) (ltG false 0) [] from Lst.nil w w.heap.size)
    go_enter Try.func24, Try.ntmps24
    go_wp2_with fail
    refine (HA.out _).mono ?_
    rintro e w' ⟨rfl, rfl⟩
    go_wp2
    go_loopw [4, 5] (fun v pv wr => ∃ (k : Nat) (us : List Value), (k : Int) ≤ m ∧ pv = .int .i64 ((k : Int) + 1) ∧ Hid (Lst wr w.heap.size v (ltG false k) us) ∧ Hid (Below w.heap.size w wr)) (fun _ pv _ => 300 - (intOf pv).toNat)
    case atStart => exact ⟨0, [], by omega, rfl, N0, Lib.hid (Below.refl _ _)⟩
    case round =>
      clear N0
      obtain ⟨k, us, hk, rfl, HL, HB⟩ := hrel
      have hsz := HB.out.size
      by_cases hlt : (k : Int) + 1 ≤ m
      · have LL := Lib.hid (fun wx => leansOf ((k : Int) + 1) wx (by omega))
        have R := Lib.hid (show ltG false (k + 1) = ltG false k ++ (lns ((k : Int) + 1)).map (l3 ((k : Int) + 1)) by simp only [ltG]; rw [gok_no])
        have hn1 := ltG_len false k
        have hn2 := lns_len ((k : Int) + 1)
        go_wp2_with (first
          | (go_at_call 38; (with_reducible refine (LL.out _).mono ?_); rintro e w2 ⟨v2, rfl, ⟨us2, hl2⟩, hb2⟩)
          | (at_builtin; refine wpList_catS wr w2 rfl _ _ rfl w.heap.size _ _ _ _ us us2 rfl HL.out hb2 rfl hl2 (by simp; omega) hsz ?_; intro v' w3 hL3 hb3))
        have HL3 := Lib.hid (show Lst w3 w.heap.size v' (ltG false (k + 1)) _ by rw [R.out]; exact hL3)
        have HB3 := Lib.hid ((HB.out.trans (hb2.mono hsz)).trans hb3)
        clear hL3 hb3 hl2 hb2
        go_roundw
        case rel => exact ⟨k + 1, _, by omega, by go_num, HL3, HB3⟩
        case measure => (simp [intOf]; try omega)
      · have e : k = m.toNat := by omega
        have HL2 := Lib.hid (show Lst wr w.heap.size u4 (upL false m) us by rw [JL.out, ← e]; exact HL.out)
        clear HL
        go_wp2
        go_ret2
        exact ⟨_, rfl, ⟨us, HL2.out⟩, HB.out⟩
end Go.Proofs.Ytfkdkhoihlkgcab
