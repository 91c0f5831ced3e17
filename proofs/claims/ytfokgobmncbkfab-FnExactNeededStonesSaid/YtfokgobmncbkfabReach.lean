/- A slice of bools of the call's own; spec.rvReach: which places one comes to. -/
import Derived.Test.YtfokgobmncbkfabSl
import Derived.Test.YtfokgobmncbkfabStand
import Derived.Laws.OwnMore
import Derived.Deep.CutRange
import Derived.Deep.DeepCutAuto
namespace Go.Proofs.Ytfokgobmncbkfab
set_option linter.unusedVariables false
open Go.RowKit

theorem Try.infoBool : (Try.prog.info? 4).map (fun i => (i.zero, i.size, i.bytes)) = some (some (.bool false), 1, 1) := by kernel_rfl
def gb (bs : List Bool) (j : Nat) : Bool := bs.getD j false
def Bools (w : World) (B : Nat) (v : Value) (bs : List Bool) : Prop := w.ownsRow B 4 1 v bs.length (bs.map Value.bool)
theorem wpList_mkB {ops : Array Oper} {rest : List Oper} {o : Oper} {a : Act} {Q : Exit → Act → World → Prop} {w0 : World} (hgd : o.guard = none) (l c : Operand)
    (ho : o.op = Op.makeSlice 41 l c) (B n : Nat) (N : Int) (hl : a.eval l = .int .i64 N) (hc : a.eval c = .int .i64 N) (hN : N = (n : Int)) (hn : n ≤ 16777216) (hB : B ≤ w0.heap.size)
    (h : ∀ w', Bools w' B (.slice (some ⟨w0.heap.size, 0, none⟩) n n) (List.replicate n false) → Below B w0 w' → w0.grownBy w' none → wpList Try.prog ops Q rest (a.put o.dst (.slice (some ⟨w0.heap.size, 0, none⟩) n n)) w') :
    wpList Try.prog ops Q (o :: rest) a w0 := by
  obtain ⟨i0, hi, hz0, hz1, hz2⟩ := info_parts Try.infoBool
  refine wpList_make_full w0 hgd l c 41 ho B 4 i0 (.bool false) 1 Try.underlying41 hi hz0 hz1 .i64 .i64 N N n hl hc hN hN (by rw [hz2]; omega) (by unfold maxLen; omega) hB ?_
  intro w' h1 h2
  refine h w' ?_ ((Below.refl _ _).grown h2 hB (by intro k hk; cases hk)) h2
  unfold Bools
  rw [List.length_replicate, List.map_replicate]
  have e : (madeCells (Value.bool false).cells (n * 1)).toList = List.replicate n (Value.bool false) := by
    rw [Nat.mul_one]; exact toList_madeCells_one _ _
  rw [← e]
  exact h1
theorem Bools.cell {w : World} {B g n cap : Nat} {bs : List Bool} (h : Bools w B (.slice (some ⟨g, 0, none⟩) n cap) bs) (hn : n = bs.length) (j : Nat) (hj : j < n) : w.cell? ⟨g, j, none⟩ = some (.bool (gb bs j)) := by
  subst hn
  rw [World.ownsRow.cellAt h j (by omega)]
  simp [gb, hj]
theorem Bools.frz {w : World} {B g n cap : Nat} {bs : List Bool} (h : Bools w B (.slice (some ⟨g, 0, none⟩) n cap) bs) (hn : n = bs.length) (j : Nat) : w.frozen? ⟨g, j, none⟩ = false := by
  subst hn
  exact World.ownsRow.frozenAt h j
theorem Bools.set {w : World} {B g n cap : Nat} {bs : List Bool} (h : Bools w B (.slice (some ⟨g, 0, none⟩) n cap) bs) (hn : n = bs.length) (j : Nat) (x : Bool) :
    Bools (w.setCell ⟨g, j, none⟩ (.bool x)) B (.slice (some ⟨g, 0, none⟩) n cap) (bs.set j x) ∧ w.grownBy (w.setCell ⟨g, j, none⟩ (.bool x)) (some g) := by
  subst hn
  have := World.ownsRow.stored h j (.bool x)
  refine ⟨?_, this.2⟩
  unfold Bools
  rw [List.length_set, List.map_set]
  exact this.1
theorem Bools.form {w : World} {B : Nat} {v : Value} {bs : List Bool} (h : Bools w B v bs) (hp : 0 < bs.length) :
    ∃ g n cap, v = .slice (some ⟨g, 0, none⟩) n cap ∧ n = bs.length ∧ B ≤ g ∧ g < w.heap.size ∧ ∀ j, j < n → w.cell? ⟨g, j, none⟩ = some (.bool (gb bs j)) := by
  rcases h.2 with ⟨_, h0⟩ | ⟨g, cap, cur, rfl, hb, hg, hnc, hcm, hcs, ht⟩
  · omega
  · exact ⟨g, _, cap, rfl, rfl, hb, (Array.getElem?_eq_some_iff.1 hg).1, fun j hj => Bools.cell h rfl j hj⟩

/-- which places up to k one comes to -/
def rch (s : ByteArray) (l : Nat) : Nat → List Bool
  | 0 => [true]
  | k + 1 => rch s l k ++ [stand s (k + 1) && ((rch s l k).drop (k + 1 - l)).any id]
theorem rch_len (s : ByteArray) (l k : Nat) : (rch s l k).length = k + 1 := by
  induction k with
  | zero => rfl
  | succ k ih => simp [rch, ih]
def reaches (s : ByteArray) (l : Nat) : List Bool := rch s l (s.size + 1)
/-- what stands at the place k + 1 when the places from lo on, so many, have been asked -/
def acc (s : ByteArray) (l k m : Nat) : Bool := stand s (k + 1) && (((rch s l k).drop (k + 1 - l)).take m).any id
theorem acc_0 (s : ByteArray) (l k : Nat) : acc s l k 0 = false := by simp [acc]
theorem acc_succ {s : ByteArray} {l k m : Nat} (h : stand s (k + 1) = true) (hm : k + 1 - l + m < k + 1) : acc s l k (m + 1) = (acc s l k m || gb (rch s l k) (k + 1 - l + m)) := by
  have hl : m < ((rch s l k).drop (k + 1 - l)).length := by simp [rch_len]; omega
  unfold acc
  rw [List.take_succ_eq_append_getElem hl, List.any_append, h]
  simp [gb, rch_len, List.getD_eq_getElem?_getD, hm]
theorem acc_end {s : ByteArray} {l k m : Nat} (h : k + 1 - l + m = k + 1 ∨ stand s (k + 1) = false) : rch s l (k + 1) = rch s l k ++ [acc s l k m] := by
  rw [show rch s l (k + 1) = rch s l k ++ [stand s (k + 1) && ((rch s l k).drop (k + 1 - l)).any id] from rfl]
  unfold acc
  rcases h with h | h
  · rw [List.take_of_length_le (by simp [rch_len]; omega)]
  · simp [h]

theorem setB_mid (xs : List Bool) (n : Nat) (x y : Bool) : (xs ++ (x :: List.replicate n false)).set xs.length y = xs ++ (y :: List.replicate n false) := by
  rw [List.set_append_right _ _ (Nat.le_refl _)]; simp
theorem gb_left (xs ys : List Bool) (j : Nat) (h : j < xs.length) : gb (xs ++ ys) j = gb xs j := by
  simp [gb, List.getD_eq_getElem?_getD, List.getElem?_append_left h]
theorem gb_mid (xs ys : List Bool) (x : Bool) : gb (xs ++ (x :: ys)) xs.length = x := by simp [gb]

theorem l1Most0 (y : Int) (lo : Nat) (w : World) (h : (y < 0 ∧ lo = 0) ∨ (0 ≤ y ∧ y = lo)) :
    Calls Try.prog 44 #[.int .i64 0, .int .i64 y] w fun e w' => e = .returned (.int .i64 lo) ∧ w = w' := by
  rcases h with ⟨h, rfl⟩ | ⟨h, rfl⟩
  · go_enter Try.func44, Try.ntmps44
    go_wp2
    go_ret
    exact ⟨rfl, rfl⟩
  · have h2 : ¬ ((lo : Int) < 0) := by omega
    go_enter Try.func44, Try.ntmps44
    go_wp2
    go_ret
    exact ⟨rfl, rfl⟩

set_option maxHeartbeats 4000000 in
theorem specReach (s : ByteArray) (l : Nat) (w : World) (hz1 : 1 ≤ s.size) (hz2 : s.size ≤ 40) (hl1 : 1 ≤ l) (hl2 : l ≤ 50) :
    Calls Try.prog 31 #[.string s, .int .i64 l] w fun e w' => ∃ v, e = .returned v ∧ Bools w' w.heap.size v (reaches s l) ∧ Below w.heap.size w w' := by
  obtain ⟨far, hfar⟩ : ∃ far, far = s.size + 1 := ⟨_, rfl⟩
  have hf1 : far ≤ 41 := by omega
  have hs : s.size ≤ 1048576 := by omega
  have HF := Lib.hid hfar
  have hfs : s.size + 1 = far := hfar.symm
  clear hfar
  obtain ⟨g, hg⟩ : ∃ g, g = w.heap.size := ⟨_, rfl⟩
  have HG := Lib.hid hg
  go_enter Try.func31, Try.ntmps31
  go_upto_region 2 with fail
  have hfi : (s.size : Int) + 1 = far := by omega
  simp only [hfi]
  clear hfi hfs
  go_upto_region 3 with (at_make; refine wpList_mkB rfl _ _ rfl w.heap.size (far + 1) _ rfl rfl rfl (by omega) (Nat.le_refl _) ?_; intro w2 hI hb2 hg2)
  have hlen0 : far + 1 = (List.replicate (far + 1) false).length := by simp
  rw [← hg] at hI hb2 ⊢
  have c0 := hI.cell hlen0 0 (by omega)
  have f0 := hI.frz hlen0 0
  have S := hI.set hlen0 0 true
  have e0 : (List.replicate (far + 1) false).set 0 true = rch s l 0 ++ List.replicate (far - 0) false := by rw [List.replicate_succ]; rfl
  rw [e0] at S
  have SS := Lib.hid (And.intro S.1 (hb2.grown S.2 (by have := hI.lt g rfl; omega) (by intro j hj; cases hj; exact Nat.le_refl _)))
  clear S e0 hI hb2 hg2 hg hlen0
  go_wp2_with fail
  go_loopw [7] (fun i wr => ∃ k : Nat, k ≤ far ∧ i = .int .i64 ((k : Int) + 1) ∧ Bools wr g (.slice (some ⟨g, 0, none⟩) (far + 1) (far + 1)) (rch s l k ++ List.replicate (far - k) false) ∧ Below g w wr) (fun i _ => far + 2 - (intOf i).toNat)
  case atStart => exact ⟨0, Nat.zero_le _, rfl, SS.out.1, SS.out.2⟩
  case round =>
    obtain ⟨k, hk, rfl, hI, hb⟩ := hrel
    have hle : g ≤ wr.heap.size := by have := hb.size; have := HG.out; omega
    by_cases hlt : k < far
    · obtain ⟨d, hd⟩ : ∃ d, d = far - k - 1 := ⟨_, rfl⟩
      rw [show far - k = d + 1 from by omega, List.replicate_succ] at hI
      have HD := Lib.hid (show far - (k + 1) = d by omega)
      have hkd : k + 1 + d = far := by omega
      have HKD := Lib.hid hkd
      have hk2 : k + 1 ≤ far := by omega
      obtain ⟨lo, hlo⟩ : ∃ lo, lo = k + 1 - l := ⟨_, rfl⟩
      have hlo2 : (((k : Int) + 1 - l) < 0 ∧ lo = 0) ∨ (0 ≤ (k : Int) + 1 - l ∧ (k : Int) + 1 - l = lo) := by omega
      have hlo3 : lo ≤ k := by omega
      have HLO := Lib.hid hlo
      have HLO2 := Lib.hid hlo2
      clear hlo hlo2 hd hkd
      have hrl := rch_len s l k
      have HRL := Lib.hid hrl
      go_wp2_with (go_at_call 44; refine (l1Most0 _ lo _ HLO2.out).mono ?_; rintro e w' ⟨rfl, rfl⟩)
      obtain ⟨wo, rfl⟩ : ∃ wo : World, wo = wr := ⟨_, rfl⟩
      go_loopw [8] (fun b wr => ∃ m : Nat, lo + m ≤ k + 1 ∧ b = .int .i64 ((lo : Int) + m) ∧ Bools wr g (.slice (some ⟨g, 0, none⟩) (far + 1) (far + 1)) (rch s l k ++ (acc s l k m :: List.replicate d false)) ∧ Below g w wr) (fun b _ => k + 1 - (intOf b).toNat)
      case atStart => exact ⟨0, by omega, by simp, by rw [acc_0]; exact hI, hb⟩
      case round =>
        clear hI hb
        obtain ⟨m, hm, rfl, hI, hb⟩ := hrel
        have hle : g ≤ wr.heap.size := by have := hb.size; have := HG.out; omega
        have hlen : far + 1 = (rch s l k ++ (acc s l k m :: List.replicate d false)).length := by simp [rch_len]; have := HKD.out; omega
        cases hst : stand s (k + 1)
        · have R := acc_end (s := s) (l := l) (k := k) (m := m) (.inr hst)
          have hI2 := hI
          rw [← List.singleton_append, ← List.append_assoc, ← R, ← HD.out] at hI2
          have HI := Lib.hid hI2
          have G := Lib.hid hst
          have HL := Lib.hid hlen
          clear R hI hI2 hst hlen
          by_cases hgo : lo + m < k + 1
          · go_wp2_with (go_at_call 39; refine (rvStand s (k + 1) _ hs (by have := HF.out; omega)).mono ?_; rintro e w' ⟨rfl, rfl⟩; rw [G.out])
            go_roundw
            case rel => exact ⟨k + 1, by omega, by go_num, HI.out, hb⟩
            case measure => (simp [intOf]; try omega)
          · go_wp2
            go_roundw
            case rel => exact ⟨k + 1, by omega, by go_num, HI.out, hb⟩
            case measure => (simp [intOf]; try omega)
        · by_cases hgo : lo + m < k + 1
          · have A := acc_succ hst (m := m) (l := l) (by have := HLO.out; omega)
            rw [← HLO.out] at A
            have c1 := hI.cell hlen (k + 1) (by omega)
            have f1 := hI.frz hlen (k + 1)
            have c2 := hI.cell hlen (lo + m) (by omega)
            have e1 : gb (rch s l k ++ (acc s l k m :: List.replicate d false)) (k + 1) = acc s l k m := by
              have := gb_mid (rch s l k) (List.replicate d false) (acc s l k m); rwa [rch_len] at this
            rw [e1] at c1
            rw [gb_left _ _ _ (by rw [rch_len]; exact hgo)] at c2
            have S := hI.set hlen (k + 1) (acc s l k m || gb (rch s l k) (lo + m))
            have e2 := setB_mid (rch s l k) d (acc s l k m) (acc s l k m || gb (rch s l k) (lo + m))
            rw [rch_len] at e2
            rw [e2, ← A] at S
            have SS2 := Lib.hid (And.intro S.1 (hb.grown S.2 hle (by intro j hj; cases hj; exact Nat.le_refl _)))
            rw [A] at SS2
            have HA := Lib.hid A
            have HL := Lib.hid hlen
            have G := Lib.hid hst
            clear S A e1 e2 hI hlen hst
            generalize acc s l k m = x at *
            generalize gb (rch s l k) (lo + m) = y at *
            cases x <;> cases y
            all_goals
              go_wp2_with (go_at_call 39; refine (rvStand s (k + 1) _ hs (by have := HF.out; omega)).mono ?_; rintro e w' ⟨rfl, rfl⟩; rw [G.out])
              go_roundw
              case rel => exact ⟨m + 1, by omega, by go_num, by rw [HA.out]; exact SS2.out.1, SS2.out.2⟩
              case measure => (simp [intOf]; try omega)
          · have R := acc_end (s := s) (l := l) (k := k) (m := m) (.inl (by have := HLO.out; omega))
            have hI2 := hI
            rw [← List.singleton_append, ← List.append_assoc, ← R, ← HD.out] at hI2
            have HI := Lib.hid hI2
            have HL := Lib.hid hlen
            have G := Lib.hid hst
            clear R hI hI2 hlen hst
            go_wp2
            go_roundw
            case rel => exact ⟨k + 1, by omega, by go_num, HI.out, hb⟩
            case measure => (simp [intOf]; try omega)
    · obtain rfl : k = far := by omega
      go_wp2
      go_ret
      refine ⟨_, rfl, ?_, by rw [← HG.out]; exact hb⟩
      rw [← HG.out, reaches, ← HF.out]
      simpa using hI
end Go.Proofs.Ytfokgobmncbkfab
