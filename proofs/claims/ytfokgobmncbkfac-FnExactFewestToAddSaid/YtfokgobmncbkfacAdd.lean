/- StonesToAdd and FewestToAdd, impl and spec. -/
import Derived.Test.YtfokgobmncbkfacBox
import Derived.Test.YtfokgobmncbkfacAsk
namespace Go.Proofs.Ytfokgobmncbkfac
set_option linter.unusedVariables false
open Go.RowKit

/-- p, p + l, p + 2 l, .. below y -/
def addF (l y : Nat) : Nat → Nat → List Int
  | 0, _ => []
  | f + 1, p => if p < y then (p : Int) :: addF l y f (p + l) else []
theorem addF_fuel {l y : Nat} (hl : 1 ≤ l) : ∀ f f' p, y - p ≤ f → y - p ≤ f' → addF l y f p = addF l y f' p
  | 0, f', p, h, _ => by
    cases f' with
    | zero => rfl
    | succ f' => simp [addF]; omega
  | f + 1, 0, p, _, h => by simp [addF]; omega
  | f + 1, f' + 1, p, h, h' => by
    simp only [addF]
    split
    · rw [addF_fuel hl f f' (p + l) (by omega) (by omega)]
    · rfl
def addG (l y p : Nat) : List Int := addF l y y p
theorem addG_yes {l y p : Nat} (hl : 1 ≤ l) (h : p < y) : addG l y p = (p : Int) :: addG l y (p + l) := by
  unfold addG
  obtain ⟨f, rfl⟩ : ∃ f, y = f + 1 := ⟨y - 1, by omega⟩
  rw [addF_fuel hl (f + 1) (f + 1 + 1) p (by omega) (by omega)]
  simp only [addF, h, if_true]
theorem addG_no {l y p : Nat} (h : y ≤ p) : addG l y p = [] := by
  unfold addG
  cases y with
  | zero => rfl
  | succ y => simp [addF]; omega
theorem addF_len (l y : Nat) : ∀ f p, (addF l y f p).length ≤ f
  | 0, p => by simp [addF]
  | f + 1, p => by
    simp only [addF]; split
    · have := addF_len l y f (p + l); simp; omega
    · simp
def addL (l : Nat) (ps : List (Nat × Nat)) : List Int := ps.flatMap fun p => addG l p.2 (p.1 + l)
theorem addL_snoc (l : Nat) (ps : List (Nat × Nat)) (p : Nat × Nat) : addL l (ps ++ [p]) = addL l ps ++ addG l p.2 (p.1 + l) := by simp [addL]
theorem addL_len (l : Nat) : ∀ (ps : List (Nat × Nat)), (∀ p ∈ ps, p.1 < p.2 ∧ p.2 ≤ 41) → (addL l ps).length ≤ 41 * ps.length
  | [], _ => by simp [addL]
  | p :: ps, h => by
    have h1 := addL_len l ps (fun q hq => h q (List.mem_cons_of_mem _ hq))
    have h2 := addF_len l p.2 p.2 (p.1 + l)
    have h3 := (h p (List.mem_cons_self ..)).2
    have e : addL l (p :: ps) = addG l p.2 (p.1 + l) ++ addL l ps := by simp [addL]
    rw [e, List.length_append]
    unfold addG
    simp only [List.length_cons]
    omega
theorem addL_len2 {l : Nat} {s : ByteArray} (hz : s.size ≤ 40) (k : Nat) (hk : k ≤ s.size + 1) : (addL l (prTo s k)).length ≤ 1700 := by
  have h1 := addL_len l (prTo s k) (fun p hp => by have := prTo_lt s k p hp; omega)
  have h2 := prTo_len s k
  omega
def toAdd (s : ByteArray) (L : Int) : List Int := if asked s L then addL L.toNat (strides s) else []
theorem toAdd_no {s : ByteArray} {L : Int} (h : asked s L = false) : toAdd s L = [] := by simp [toAdd, h]
theorem toAdd_yes {s : ByteArray} {l : Nat} (h : asked s l = true) : toAdd s l = addL l (strides s) := by simp [toAdd, h]
theorem toAdd_len (s : ByteArray) (L : Int) : (toAdd s L).length ≤ 1700 := by
  unfold toAdd; split
  · rename_i h; exact addL_len2 (asked_out h).2.2.1 _ (Nat.le_refl _)
  · simp

def ToAddPost (B : Nat) (zs : List Int) (ok : Bool) (w : World) (e : Ending) (w' : World) : Prop :=
  ∃ v, e = .returned (.tuple #[v, .bool ok]) ∧ Ints w' B v zs ∧ Below B w w'

set_option maxHeartbeats 4000000 in
theorem specAdd (s : ByteArray) (l : Nat) (w : World) (hz : s.size ≤ 40) (hl1 : 1 ≤ l) (hl2 : l ≤ 50) :
    Calls Try.prog 26 #[.string s, .int .i64 l] w fun e w' => ∃ v, e = .returned v ∧ Ints w' w.heap.size v (addL l (strides s)) ∧ Below w.heap.size w w' := by
  have hs : s.size ≤ 1048576 := by omega
  go_enter Try.func26, Try.ntmps26
  go_wp2_with fail
  go_loopw [5, 6, 8] (fun v q i wr => ∃ k : Nat, k ≤ s.size + 1 ∧ i = .int .i64 ((k : Int) + 1) ∧ q = .int .i64 (lastTo s k) ∧ Ints wr w.heap.size v (addL l (prTo s k)) ∧ Below w.heap.size w wr) (fun _ _ i _ => s.size + 3 - (intOf i).toNat)
  case atStart => exact ⟨0, Nat.zero_le _, rfl, rfl, World.ownsRow_nil _ _ _ _, Below.refl _ _⟩
  case round =>
    obtain ⟨k, hk, rfl, rfl, hI, hb⟩ := hrel
    have hl := lastTo_le s k
    by_cases hlt : k < s.size + 1
    · cases hst : stand s (k + 1)
      · have R := Lib.hid (prTo_no hst)
        have R2 := Lib.hid (lastTo_no hst)
        have G := Lib.hid hst
        clear hst
        go_wp2_with (go_at_call 31; refine (rvStand s (k + 1) _ hs (by omega)).mono ?_; rintro e w' ⟨rfl, rfl⟩; rw [G.out])
        go_roundw
        case rel => exact ⟨k + 1, by omega, by go_num, by rw [R2.out], by rw [R.out]; exact hI, hb⟩
        case measure => (simp [intOf]; try omega)
      · have R := Lib.hid (prTo_yes hst)
        have R2 := Lib.hid (lastTo_yes hst)
        have G := Lib.hid hst
        have hln := addL_len2 (l := l) hz (k + 1) (by omega)
        rw [R.out, addL_snoc] at hln
        have HT := Lib.hid (addL_snoc l (prTo s k) (lastTo s k, k + 1))
        simp only at hln
        clear hst
        generalize addL l (prTo s k) = pre at *
        generalize hq0 : lastTo s k = q0 at *
        have HQ := Lib.hid hq0
        clear hq0
        go_wp2_with (go_at_call 31; refine (rvStand s (k + 1) _ hs (by omega)).mono ?_; rintro e w' ⟨rfl, rfl⟩; rw [G.out])
        obtain ⟨wo, rfl⟩ : ∃ wo : World, wo = wr := ⟨_, rfl⟩
        go_loopw [5, 6] (fun v q wr => ∃ (acc : List Int) (z : Nat), z ≤ k + 1 ∧ q = .int .i64 z ∧ acc ++ addG l (k + 1) (z + l) = pre ++ addG l (k + 1) (q0 + l) ∧ Ints wr w.heap.size v acc ∧ Below w.heap.size w wr) (fun _ q _ => k + 1 - (intOf q).toNat)
        case atStart => exact ⟨pre, q0, by omega, rfl, rfl, hI, hb⟩
        case round =>
          clear hI hb
          obtain ⟨acc, z, hz1, rfl, hacc, hI, hb⟩ := hrel
          have hle := hb.size
          have hal : acc.length ≤ 1700 := by have := congrArg List.length hacc; simp at this hln; omega
          by_cases hgo : z + l < k + 1
          · have A := Lib.hid (show (acc ++ [((z : Int) + l)]) ++ addG l (k + 1) (z + l + l) = pre ++ addG l (k + 1) (q0 + l) by rw [← hacc, addG_yes hl1 hgo]; simp)
            have hgi : (l : Int) < (k : Int) + 1 - z := by omega
            clear hacc
            go_wp2_with (at_builtin; refine wpList_app wr rfl _ _ rfl w.heap.size _ acc rfl hI ((z : Int) + l) rfl (by omega) hle rfl ?_; intro v' w2 hI2 hb2 hg2)
            go_roundw
            case rel => exact ⟨acc ++ [((z : Int) + l)], z + l, by omega, by go_num, A.out, hI2, hb.trans hb2⟩
            case measure => (simp [intOf]; try omega)
          · have hgi : ¬ (l : Int) < (k : Int) + 1 - z := by omega
            rw [addG_no (p := z + l) (by omega), List.append_nil] at hacc
            have A := Lib.hid hacc
            clear hacc
            go_wp2
            go_roundw
            case rel => exact ⟨k + 1, by omega, by go_num, by rw [R2.out]; rfl, by rw [R.out, HT.out, ← A.out]; exact hI, hb⟩
            case measure => (simp [intOf]; try omega)
    · obtain rfl : k = s.size + 1 := by omega
      go_wp2
      go_ret
      exact ⟨_, rfl, hI, hb⟩

def SBox (w : World) (b : Nat) (x y : Value) : Prop := w.heap[b]? = some (.cells #[x, y] 39 (0, 0))
theorem SBox.two {w : World} {b : Nat} {x y : Value} (h : SBox w b x y) : Box2 w b x y := ⟨_, h⟩
theorem SBox.kept {w w' : World} {b : Nat} {x y : Value} (h : SBox w b x y) {r : Option Nat} (hg : w.grownBy w' r) (hr : some b ≠ r) : SBox w' b x y :=
  (hg.block b (Array.getElem?_eq_some_iff.1 h).1 hr).trans h
theorem SBox.ne {w : World} {b B : Nat} {x y v : Value} {zs : List Int} (h : SBox w b x y) (hI : Ints w B v zs) : some b ≠ v.ownBlock := by
  intro e
  rcases hI.2 with ⟨rfl, _⟩ | ⟨g, cap, cur, rfl, hb, hg, _⟩
  · cases e
  · have e2 : b = g := by injection e
    subst e2
    unfold SBox at h
    rw [hg] at h
    injection h with h
    injection h with _ h2
    exact absurd h2 (by decide)

theorem ints_mono {w : World} {B B' : Nat} {v : Value} {l : List Int} (h : Ints w B' v l) (hb : B ≤ B') : Ints w B v l := by
  refine ⟨h.1, ?_⟩
  rcases h.2 with h2 | ⟨g, cap, cur, e, h1, r⟩
  · exact .inl h2
  · exact .inr ⟨g, cap, cur, e, Nat.le_trans hb h1, r⟩

set_option maxHeartbeats 4000000 in
theorem implToAdd (s : ByteArray) (L : Int) (w : World) (hs : s.size ≤ 1048576) :
    Calls Try.prog 12 #[.string s, .int .i64 L] w (ToAddPost w.heap.size (toAdd s L) (asked s L) w) := by
  cases h1 : asked s L
  · have J := Lib.hid (toAdd_no h1)
    have G := Lib.hid h1
    clear h1
    go_enter Try.func12, Try.ntmps12
    go_wp2_with (go_at_call 27; refine (implAsked _ _ _ hs).mono ?_; rintro e w' ⟨rfl, rfl⟩; rw [G.out])
    go_ret2
    exact ⟨_, rfl, by rw [J.out]; exact World.ownsRow_nil _ _ _ _, Below.refl _ _⟩
  · obtain ⟨_, hz1, hz, hl1, hl2⟩ := asked_out h1
    obtain ⟨l, rfl⟩ := Int.eq_ofNat_of_zero_le (show 0 ≤ L by omega)
    have J := Lib.hid (toAdd_yes h1)
    have G := Lib.hid h1
    have HT := Lib.hid (strides_lt s)
    clear h1
    go_enter Try.func12, Try.ntmps12
    go_wp2_with (first
      | (go_at_call 27; refine (implAsked _ _ _ hs).mono ?_; rintro e w' ⟨rfl, rfl⟩; rw [G.out])
      | (go_at_call 28; refine (stridesOf s _ hz).mono ?_; rintro e w1 ⟨v, rfl, hI, hb1⟩; obtain ⟨a, n, cap, rfl, hn0, hcell0⟩ := hI.form; have HN := Lib.hid hn0; have HC := Lib.hid hcell0; clear hn0 hcell0 hI))
    have hnb : n ≤ 41 := by have := strides_len s; have := HN.out; omega
    have hsz := hb1.size
    go_loopw [6, 17] (fun v i wr => ∃ j : Nat, j ≤ n ∧ i = .int .i64 j ∧ Ints wr w1.heap.size v (addL l ((strides s).take j)) ∧ Below w1.heap.size w1 wr) (fun _ i _ => n - (intOf i).toNat)
    case atStart => exact ⟨0, Nat.zero_le _, rfl, World.ownsRow_nil _ _ _ _, Below.refl _ _⟩
    case round =>
      obtain ⟨j, hj, rfl, hI, hb⟩ := hrel
      have hle := hb.size
      by_cases hlt : j < n
      · have hjl : j < (strides s).length := by have := HN.out; omega
        obtain ⟨g, rfl, hg1, hg2, hc0, hc1⟩ := HC.out j hlt
        have hpb := HT.out _ (List.getElem_mem hjl)
        have hgd : (strides s).getD j (0, 0) = (strides s)[j] := by simp [hjl]
        have hstep : addL l ((strides s).take (j + 1)) = addL l ((strides s).take j) ++ addG l ((strides s)[j]).2 (((strides s)[j]).1 + l) := by
          rw [List.take_succ_eq_append_getElem hjl, addL_snoc]
        rw [hgd] at hc0 hc1
        have hln : (addL l ((strides s).take (j + 1))).length ≤ 1700 := by
          have h1 := addL_len l ((strides s).take (j + 1)) (fun p hp => by have := HT.out p (List.mem_of_mem_take hp); omega)
          have h2 : ((strides s).take (j + 1)).length ≤ 41 := by simp; omega
          omega
        rw [hstep] at hln
        have hc0 := (hb.cell (p := ⟨g, j * 2, none⟩) hg2).trans hc0
        have hc1 := (hb.cell (p := ⟨g, j * 2 + 1, none⟩) hg2).trans hc1
        have HS := Lib.hid hstep
        clear hstep hgd
        generalize (strides s)[j] = p at *
        obtain ⟨x, y⟩ := p
        simp only at hc0 hc1 hpb hln HS
        generalize addL l ((strides s).take j) = pre at *
        clear HC HT HN
        go_wp2
        obtain ⟨wo, rfl⟩ : ∃ wo : World, wo = wr := ⟨_, rfl⟩
        have hbx : SBox (wo.alloc (.cells #[.int .i64 (x : Int), .int .i64 (y : Int)] 39)) wo.heap.size (.int .i64 (x : Int)) (.int .i64 (y : Int)) := heap_alloc_new wo _
        generalize hb8 : wo.heap.size = b8 at *
        have HB8 := Lib.hid hb8
        clear hb8
        go_loopw [6, 9] (fun v q wr => ∃ (acc : List Int) (z : Nat), z ≤ y + l ∧ q = .int .i64 z ∧ acc ++ addG l y z = pre ++ addG l y (x + l) ∧ SBox wr b8 (.int .i64 (x : Int)) (.int .i64 (y : Int)) ∧ Ints wr w1.heap.size v acc ∧ Below w1.heap.size w1 wr) (fun _ q _ => y + l - (intOf q).toNat)
        case atStart => exact ⟨pre, x + l, by omega, by go_num, rfl, hbx, World.ownsRow.alloc hI _, hb.alloc (by have := HB8.out; omega) _⟩
        case round =>
          clear hI hb hbx hc0 hc1
          obtain ⟨acc, z, hz1, rfl, hacc, hbx, hI, hb⟩ := hrel
          have hle := hb.size
          have hal : acc.length ≤ 1700 := by have := congrArg List.length hacc; simp at this hln; omega
          have y1 := hbx.two.cell1
          by_cases hgo : z < y
          · have A := Lib.hid (show (acc ++ [(z : Int)]) ++ addG l y (z + l) = pre ++ addG l y (x + l) by rw [← hacc, addG_yes (by omega) hgo]; simp)
            have hne := hbx.ne hI
            have HBX := Lib.hid hbx
            have HNE := Lib.hid hne
            clear hacc hbx hne
            go_wp2_with (at_builtin; refine wpList_app wr rfl _ _ rfl w1.heap.size _ acc rfl hI (z : Int) rfl (by omega) hle rfl ?_; intro v' w2 hI2 hb2 hg2)
            go_roundw
            case rel => exact ⟨acc ++ [(z : Int)], z + l, by omega, by go_num, A.out, HBX.out.kept hg2 HNE.out, hI2, hb.trans hb2⟩
            case measure => (simp [intOf]; try omega)
          · rw [addG_no (p := z) (by omega), List.append_nil] at hacc
            have A := Lib.hid hacc
            clear hacc
            go_wp2
            go_roundw
            case rel => exact ⟨j + 1, by omega, by go_num, by rw [HS.out, ← A.out]; exact hI, hb⟩
            case measure => (simp [intOf]; try omega)
      · obtain rfl : j = n := by omega
        have e := Lib.hid (show (strides s).take j = strides s from List.take_of_length_le (by have := HN.out; omega))
        go_wp2
        go_ret2
        refine ⟨_, rfl, ?_, hb1.trans (hb.mono hsz)⟩
        rw [J.out, ← e.out]
        exact ints_mono hI hsz

theorem specToAdd (s : ByteArray) (L : Int) (w : World) (hs : s.size ≤ 1048576) :
    Calls Try.prog 11 #[.string s, .int .i64 L] w (ToAddPost w.heap.size (toAdd s L) (asked s L) w) := by
  cases h1 : asked s L
  · have J := Lib.hid (toAdd_no h1)
    have G := Lib.hid h1
    clear h1
    go_enter Try.func11, Try.ntmps11
    go_wp2_with (go_at_call 25; refine (specAsked _ _ _ hs).mono ?_; rintro e w' ⟨rfl, rfl⟩; rw [G.out])
    go_ret2
    exact ⟨_, rfl, by rw [J.out]; exact World.ownsRow_nil _ _ _ _, Below.refl _ _⟩
  · obtain ⟨_, hz1, hz, hl1, hl2⟩ := asked_out h1
    obtain ⟨l, rfl⟩ := Int.eq_ofNat_of_zero_le (show 0 ≤ L by omega)
    have J := Lib.hid (toAdd_yes h1)
    have G := Lib.hid h1
    clear h1
    go_enter Try.func11, Try.ntmps11
    go_wp2_with (first
      | (go_at_call 25; refine (specAsked _ _ _ hs).mono ?_; rintro e w' ⟨rfl, rfl⟩; rw [G.out])
      | (go_at_call 26; refine (specAdd s l _ hz (by omega) (by omega)).mono ?_; rintro e w1 ⟨v, rfl, hI, hb⟩))
    go_ret2
    exact ⟨_, rfl, by rw [J.out]; exact hI, hb⟩

def fewAddV (s : ByteArray) (L : Int) : Value := .tuple #[.int .i64 ((toAdd s L).length : Int), .bool (asked s L)]
theorem fewAddV_form (s : ByteArray) (L : Int) : ∃ x y, fewAddV s L = .tuple #[.int .i64 x, .bool y] := ⟨_, _, rfl⟩
theorem Ints.len {w : World} {B : Nat} {v : Value} {zs : List Int} (h : Ints w B v zs) : ∃ a n c, v = .slice a n c ∧ n = zs.length := by
  rcases h.2 with ⟨rfl, h0⟩ | ⟨g, cap, cur, rfl, hb, hg, _⟩
  · exact ⟨_, _, _, rfl, h0.symm⟩
  · exact ⟨_, _, _, rfl, rfl⟩

theorem implFewAdd (s : ByteArray) (L : Int) (w : World) (hs : s.size ≤ 1048576) :
    Calls Try.prog 10 #[.string s, .int .i64 L] w fun e w' => e = .returned (fewAddV s L) ∧ Below w.heap.size w w' := by
  have E := Lib.hid (show fewAddV s L = .tuple #[.int .i64 ((toAdd s L).length : Int), .bool (asked s L)] from rfl)
  have I := fun wx => implToAdd s L wx hs
  have hl := toAdd_len s L
  generalize toAdd s L = zs at *
  generalize asked s L = ok at *
  have HI := Lib.hid I
  clear I
  go_enter Try.func10, Try.ntmps10
  go_wp2_with (go_at_call 12; refine (HI.out _).mono ?_; rintro e w1 ⟨v, rfl, hI, hb⟩; obtain ⟨a, n, c, rfl, hn⟩ := hI.len; have HN := Lib.hid hn; have hnn : n ≤ 1700 := (by omega); clear hn hI)
  go_ret2
  exact ⟨ret_v (by rw [E.out, ← HN.out]; rfl), hb⟩

theorem specFewAdd (s : ByteArray) (L : Int) (w : World) (hs : s.size ≤ 1048576) :
    Calls Try.prog 9 #[.string s, .int .i64 L] w fun e w' => e = .returned (fewAddV s L) ∧ Below w.heap.size w w' := by
  cases h1 : asked s L
  · have J := Lib.hid (show fewAddV s L = .tuple #[.int .i64 0, .bool false] by unfold fewAddV; rw [toAdd_no h1, h1]; rfl)
    have G := Lib.hid h1
    clear h1
    go_enter Try.func9, Try.ntmps9
    go_wp2_with (go_at_call 25; refine (specAsked _ _ _ hs).mono ?_; rintro e w' ⟨rfl, rfl⟩; rw [G.out])
    go_ret2
    exact ⟨ret_v J.out.symm, Below.refl _ _⟩
  · obtain ⟨_, hz1, hz, hl1, hl2⟩ := asked_out h1
    obtain ⟨l, rfl⟩ := Int.eq_ofNat_of_zero_le (show 0 ≤ L by omega)
    have hln := addL_len2 (l := l) hz (s.size + 1) (Nat.le_refl _)
    have J := Lib.hid (show fewAddV s l = .tuple #[.int .i64 ((addL l (strides s)).length : Int), .bool true] by unfold fewAddV; rw [toAdd_yes h1, h1])
    have G := Lib.hid h1
    rw [show prTo s (s.size + 1) = strides s from rfl] at hln
    clear h1
    go_enter Try.func9, Try.ntmps9
    go_wp2_with (first
      | (go_at_call 25; refine (specAsked _ _ _ hs).mono ?_; rintro e w' ⟨rfl, rfl⟩; rw [G.out])
      | (go_at_call 26; refine (specAdd s l _ hz (by omega) (by omega)).mono ?_; rintro e w1 ⟨v, rfl, hI, hb⟩; obtain ⟨a, n, c, rfl, hn⟩ := hI.len; have HN := Lib.hid hn; have hnn : n ≤ 1700 := (by omega); clear hn hI))
    go_ret2
    exact ⟨ret_v (by rw [J.out, ← HN.out]; rfl), hb⟩
end Go.Proofs.Ytfokgobmncbkfac
