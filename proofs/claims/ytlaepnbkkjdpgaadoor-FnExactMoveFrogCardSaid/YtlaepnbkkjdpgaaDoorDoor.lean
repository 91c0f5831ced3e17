/- impl: the deferred closure that recovers, throughDoor, isMoveList, playOf. -/
import Derived.Test.YtlaepnbkkjdpgaaDoorPlI
import Derived.Deep.RegionWith
namespace Go.Proofs.YtlaepnbkkjdpgaaDoor
set_option linter.unusedVariables false
open Go.RowKit Go.Stop

/-- block b holds one interface value, and may be written -/
def EB (w : World) (b : Nat) (x : Value) : Prop := w.heap[b]? = some (.cells #[x] 62 (0, 0))
theorem EB.c0 {w : World} {b : Nat} {x : Value} (h : EB w b x) : w.cell? ⟨b, 0, none⟩ = some x := by unfold EB at h; simp [World.cell?, h]
theorem EB.fr {w : World} {b : Nat} {x : Value} (h : EB w b x) (j : Nat) : w.frozen? ⟨b, j, none⟩ = false := by unfold EB at h; simp [World.frozen?, h]
theorem EB.lt {w : World} {b : Nat} {x : Value} (h : EB w b x) : b < w.heap.size := (Array.getElem?_eq_some_iff.1 h).1
theorem EB.below {w w' : World} {b : Nat} {x : Value} (h : EB w b x) (hb : Below w.heap.size w w') : EB w' b x := (hb.block b h.lt).trans h
theorem EB.new (w : World) (x : Value) : EB (w.alloc (.cells #[x] 62)) w.heap.size x := heap_alloc_new w _
theorem EB.other {w : World} {b c : Nat} {x : Value} (h : EB w b x) (hne : b ≠ c) (j : Nat) (v : Value) : EB (w.setCell ⟨c, j, none⟩ v) b x :=
  (Below.heap_setCell _ _ _ b (by intro e; exact hne e)).trans h
theorem EB.set {w : World} {b : Nat} {x : Value} (h : EB w b x) (y : Value) : EB (w.setCell ⟨b, 0, none⟩ y) b y := by
  unfold EB at *; rw [heap_setCell_same w b 0 _ _ _ h]; rfl

theorem Tryd.assertNil (w : World) : (Instr.typeAssert .nilIface 20 62 true).run Tryd.prog w = .ok (.tuple #[.nilIface, .bool false]) w := by kernel_rfl
theorem Tryd.assertS (v : Value) (xT : TypeId) (w : World) : (Instr.typeAssert (.iface 114 v) xT 62 true).run Tryd.prog w = .ok (.tuple #[.iface 114 v, .bool true]) w := run_typeAssert_hasB Tryd.underlying62 (by kernel_rfl) v xT w
theorem Tryd.assertT (v : Value) (xT : TypeId) (w : World) : (Instr.typeAssert (.iface 74 v) xT 62 true).run Tryd.prog w = .ok (.tuple #[.iface 74 v, .bool true]) w := run_typeAssert_hasB Tryd.underlying62 (by kernel_rfl) v xT w

theorem catch_idle (p q : Addr) (w : World) :
    CallsD Tryd.prog 53 #[.pointer (some p), .pointer (some q)] .returning w fun e u' w' => e = .returned (.tuple #[]) ∧ u' = .returning ∧ w' = w := by
  have hta := Tryd.assertNil
  refine callsD_of_wpS Tryd.func53 rfl fun c₀ cs hu => ?_
  apply wpS_seq
  apply wpS_region
  simp [wpOpsS, go_sem, recoverD, hu, Tryd.ntmps53, Exit.thenS, hta]
  apply wpS_seq
  apply wpS_region
  simp [wpOpsS, go_sem, Exit.thenS]
  refine wpS_cond (t := false) (by simp [Act.eval, Array.replicate]) ?_
  simp only [Bool.false_eq_true, if_false]
  refine wpS_of_wp (wp_skip ?_)
  cases c₀
  simp_all [bodyPostS, results, Tryd.results53]

theorem catch_panicking (a : Nat) (q : ByteArray) (m : Int) (x : Value) (p : Addr) (u : TypeId) (pv : Value) (older : List PanicEntry) (w : World) (hE : ErrIs p (.iface u pv)) (h1 : PB w a q m) (h2 : EB w (a + 1) x) :
    CallsD Tryd.prog 53 #[.pointer (some ⟨a, 0, none⟩), .pointer (some ⟨a + 1, 0, none⟩)] (.panicking ({ v := .iface u pv, recovered := false } :: older)) w fun e u' w' =>
      e = .returned (.tuple #[]) ∧ u' = .panicking ({ v := .iface u pv, recovered := true } :: older) ∧ w' = ((w.setCell ⟨a, 0, none⟩ (.string ⟨#[]⟩)).setCell ⟨a, 1, none⟩ (.int .i64 0)).setCell ⟨a + 1, 0, none⟩ (.iface u pv) := by
  have hta : ∀ xT w, (Instr.typeAssert (.iface u pv) xT 62 true).run Tryd.prog w = .ok (.tuple #[.iface u pv, .bool true]) w := by
    rcases hE with e | ⟨c, e⟩
    · injection e with e1 e2; subst e1; subst e2; exact Tryd.assertS _
    · injection e with e1 e2; subst e1; subst e2; exact Tryd.assertT _
  have k0 := h1.c0
  have f0 := h1.fr 0
  have P1 := h1.set0 ⟨#[]⟩
  have k2 := P1.c1
  have f2 := P1.fr 1
  have P2 := P1.set1 0
  have E1 := (h2.other (c := a) (by omega) 0 (.string ⟨#[]⟩)).other (c := a) (by omega) 1 (.int .i64 0)
  have k3 := E1.c0
  have f3 := E1.fr 0
  clear P1 P2 E1 h1 h2 hE
  refine callsD_of_wpS Tryd.func53 rfl fun c₀ cs hu => ?_
  apply wpS_seq
  apply wpS_region
  simp [wpOpsS, go_sem, recoverD, hu, Tryd.ntmps53, Exit.thenS, hta]
  apply wpS_seq
  apply wpS_region
  simp [wpOpsS, go_sem, Exit.thenS]
  refine wpS_cond (t := true) (by simp [Act.eval, Array.replicate]) ?_
  simp only [if_true]
  apply wpS_region
  simp [wpOpsS, go_sem, k0, k2, k3, f0, f2, f3, bodyPostS, results, Tryd.results53]

theorem hop_yes (q : ByteArray) (m : Nat) (i : Int) (p : Addr) (w : World) (hp : isPd q = true) (hL : Laid w p) (hm : m ≤ 1000) (h : 0 ≤ toI q i) :
    Calls Tryd.prog 55 #[.agg #[.string q, .int .i64 m], .int .i64 i] w fun e w' => e = .returned (.agg #[.string (goI q i), .int .i64 ((m + b2n (leapB q i) : Nat) : Int)]) ∧ Below w.heap.size w w' := by
  obtain ⟨h0, h1⟩ := toI_in h
  obtain ⟨k, rfl⟩ := Int.eq_ofNat_of_zero_le h0
  obtain ⟨t, ht⟩ := Int.eq_ofNat_of_zero_le h
  have hk : k < q.size := by omega
  rcases isPd_sg hp hk with hs | hs | hs
  · exact hop_r q m k t p w hp hL hm hk hs ht
  · exact hop_l q m k t p w hp hL hm hk hs ht
  · rw [toI_nat hk, toN_free hs] at h; omega
def DoorPost (s : ByteArray) (l : List Int) (p : Addr) (w : World) (e : Ending) (w' : World) : Prop :=
  ((∃ q m, playR s l = some (q, m) ∧ e = .returned (.tuple #[.agg #[.string q, .int .i64 (m : Int)], .nilIface])) ∨ (playR s l = none ∧ ∃ ev, ErrIs p ev ∧ e = .returned (.tuple #[.agg #[.string ⟨#[]⟩, .int .i64 0], ev]))) ∧ Below w.heap.size w w'

set_option maxHeartbeats 4000000 in
theorem throughDoor (s : ByteArray) (v : Value) (l : List Int) (p : Addr) (w : World) (hp : isPd s = true) (hL : Laid w p) (h : Rd w v l) (hl : l.length ≤ 60) :
    Calls Tryd.prog 46 #[.string s, v] w (DoorPost s l p w) := by
  have hmf : ∀ (fn : Fn) (first cap : Array Value) (w : World), (Instr.makeFunc fn first cap).run Tryd.prog w = .ok (.func fn first cap) w := fun _ _ _ _ => rfl
  obtain ⟨n, hn⟩ : ∃ n, n = l.length := ⟨_, rfl⟩
  obtain ⟨a, cap, rfl, hcell⟩ : ∃ a cap, v = .slice a n cap ∧ ∀ j, j < n → ∃ b off, a = some ⟨b, off, none⟩ ∧ b < w.heap.size ∧ w.cell? ⟨b, off + j, none⟩ = some (.int .i64 (gt l j)) := by
    rcases h with ⟨⟨a, c, rfl⟩, rfl⟩ | ⟨b, off, cap, rfl, hb, hc, hm, hh⟩
    · obtain rfl : n = 0 := hn
      exact ⟨_, _, rfl, fun j hj => absurd hj (Nat.not_lt_zero _)⟩
    · rw [← hn] at *
      exact ⟨_, _, rfl, fun j hj => ⟨b, off, rfl, hb, hh j hj⟩⟩
  rw [← hn] at hl
  obtain ⟨z1, z2, hal⟩ := isPd_in hp
  have HC := Lib.hid hcell
  have HN := Lib.hid hn
  have HP := Lib.hid hp
  have HL := Lib.hid hL
  have PA := Lib.hid ((PB.new w ⟨#[]⟩ 0).alloc (.cells #[.nilIface] 62))
  have eA := EB.new (w.alloc (.cells #[.string ⟨#[]⟩, .int .i64 0] 49)) .nilIface
  have eS : (w.alloc (.cells #[.string ⟨#[]⟩, .int .i64 0] 49)).heap.size = w.heap.size + 1 := by simp
  rw [eS] at eA
  have EA := Lib.hid eA
  have HBA := Lib.hid (show Below w.heap.size w ((w.alloc (.cells #[.string ⟨#[]⟩, .int .i64 0] 49)).alloc (.cells #[.nilIface] 62)) from ((Below.refl w.heap.size w).alloc (Nat.le_refl _) _).alloc (by simp) _)
  have HSA := Lib.hid (show w.heap.size + 2 = ((w.alloc (.cells #[.string ⟨#[]⟩, .int .i64 0] 49)).alloc (.cells #[.nilIface] 62)).heap.size by simp)
  clear hcell h hn hp hL eA eS hal
  go_enter_defers Tryd.func46, Tryd.ntmps46
  go_wp2_with (go_at_call 54; refine (clone s _ z1 (by omega)).mono ?_; rintro e w1 ⟨rfl, hb1⟩; have P1 := Lib.hid (PA.out.below hb1); have E1 := Lib.hid (EA.out.below hb1); have HB1 := Lib.hid (HBA.out.trans (hb1.mono (by rw [← HSA.out]; omega))); have hle1 := hb1.size; rw [← HSA.out] at hle1; clear hb1)
  have PP := Lib.hid (PB.new w1 s 0)
  have P2 := Lib.hid (P1.out.alloc (.cells #[.string s, .int .i64 0] 49))
  have E2 := Lib.hid (E1.out.below ((Below.refl _ w1).alloc (Nat.le_refl _) (.cells #[.string s, .int .i64 0] 49)))
  have HB2 := Lib.hid (HB1.out.alloc (by omega) (.cells #[.string s, .int .i64 0] 49))
  go_loopw [8, 15] (fun fr i wr => ∃ (j m : Nat) (q : ByteArray), j ≤ n ∧ m ≤ j ∧ i = .int .i64 j ∧ Hid (stP s l j = some (q, m)) ∧ Hid (isPd q = true) ∧ Hid (PB wr w1.heap.size q m) ∧ Hid (PB wr w.heap.size ⟨#[]⟩ 0) ∧ Hid (EB wr (w.heap.size + 1) .nilIface) ∧ Hid (Below w.heap.size w wr)) (fun _ i _ => n - (intOf i).toNat)
  case atStart => exact ⟨0, 0, s, Nat.zero_le _, Nat.le_refl _, rfl, Lib.hid rfl, HP, PP, P2, E2, HB2⟩
  case round =>
    obtain ⟨j, m, q, hj, hm, rfl, HS, HQ, HPP, HPE, HE, HB⟩ := hrel
    have hle := HB.out.size
    have LR := Lib.hid (HL.out.below HB.out)
    by_cases hlt : j < n
    · obtain ⟨b, off, rfl, hbl, hc⟩ := HC.out j hlt
      have hc := (HB.out.cell (p := ⟨b, off + j, none⟩) hbl).trans hc
      have HYES := Lib.hid (fun hg => stP_yes HS.out hg)
      have HNO := Lib.hid (fun hg => stP_no HS.out hg)
      have HPD := Lib.hid (fun hg => isPd_goI (i := gt l j) HQ.out hg)
      have c0 := HPP.out.c0
      have c1 := HPP.out.c1
      generalize gt l j = x at *
      by_cases hg : 0 ≤ toI q x
      · have S := Lib.hid (HYES.out hg)
        have Q2 := Lib.hid (HPD.out hg)
        have HH := Lib.hid (fun wx (h : Laid wx p) => hop_yes q m x p wx HQ.out h (by omega) hg)
        clear hg HYES HNO HPD
        have hb2n : b2n (leapB q x) ≤ 1 := by unfold b2n; split <;> omega
        generalize b2n (leapB q x) = lp at *
        generalize goI q x = g at *
        go_wp2_with (go_at_call 55; refine (HH.out _ LR.out).mono ?_; rintro e w2 ⟨rfl, hb2⟩; have A0 := HPP.out.below hb2; have HPE2 := Lib.hid (HPE.out.below hb2); have HE2 := Lib.hid (HE.out.below hb2); have HBB := Lib.hid (HB.out.trans (hb2.mono hle)); have k0 := A0.c0; have f0 := A0.fr 0; have A1 := A0.set0 g; have k1 := A1.c1; have f1 := A1.fr 1; have HA := Lib.hid (A1.set1 ((m + lp : Nat) : Int)); clear hb2 A0 A1)
        go_roundw
        case rel => exact ⟨j + 1, m + lp, g, by omega, by omega, by go_num, S, Q2, HA, Lib.hid ((HPE2.out.other (by omega) 0 _).other (by omega) 1 _), Lib.hid ((HE2.out.other (by omega) 0 _).other (by omega) 1 _), Lib.hid ((HBB.out.setCell (by show w.heap.size ≤ w1.heap.size; omega) _).setCell (by show w.heap.size ≤ w1.heap.size; omega) _)⟩
        case measure => (simp [intOf]; try omega)
      · have R := Lib.hid (playR_none (by have := HN.out; omega) (HNO.out hg))
        have HG := Lib.hid hg
        clear HYES HNO HPD hg
        go_wp2_with (go_at_call 55; refine (hop_no q m x p _ HQ.out LR.out HG.out).mono ?_; rintro e w2 ⟨ev, hev, rfl, hb2⟩; obtain ⟨et, evv, rfl⟩ := hev.form; have HEV := Lib.hid hev; have HPE2 := HPE.out.below hb2; have HE2 := HE.out.below hb2; have HBB := Lib.hid (HB.out.trans (hb2.mono hle)); clear hev hb2)
        refine leaves_cons (f := 53) (args := #[.pointer (some ⟨w.heap.size, 0, none⟩), .pointer (some ⟨w.heap.size + 1, 0, none⟩)]) (by simp) (by simp [go_sem]) ?_
        refine (catch_panicking w.heap.size ⟨#[]⟩ 0 .nilIface p et evv [] _ HEV.out HPE2 HE2).mono ?_
        rintro e u' w'' ⟨rfl, rfl, rfl⟩
        have F0 := ((HPE2.set0 ⟨#[]⟩).set1 0).other (c := w.heap.size + 1) (by omega) 0 (.iface et evv)
        have F1 := ((HE2.other (c := w.heap.size) (by omega) 0 (.string ⟨#[]⟩)).other (c := w.heap.size) (by omega) 1 (.int .i64 0)).set (.iface et evv)
        have HBF := Lib.hid (((HBB.out.setCell (p := ⟨w.heap.size, 0, none⟩) (Nat.le_refl _) (.string ⟨#[]⟩)).setCell (p := ⟨w.heap.size, 1, none⟩) (Nat.le_refl _) (.int .i64 0)).setCell (p := ⟨w.heap.size + 1, 0, none⟩) (Nat.le_succ _) (.iface et evv))
        have F0a := F0.c0
        have F0b := F0.c1
        have F1a := F1.c0
        simp [Leaves, settle, results, Tryd.results46, go_sem, F0a, F0b, F1a]
        exact ⟨.inr ⟨R.out, _, HEV.out, rfl⟩, HBF.out⟩
    · obtain rfl : j = n := by omega
      have R := Lib.hid (show playR s l = some (q, m) by unfold playR; rw [← HN.out]; exact HS.out)
      have c0 := HPP.out.c0
      have c1 := HPP.out.c1
      have k0 := HPE.out.c0
      have f0 := HPE.out.fr 0
      have A1 := HPE.out.set0 q
      have k1 := A1.c1
      have f1 := A1.fr 1
      have A2 := A1.set1 m
      have E1' := (HE.out.other (c := w.heap.size) (by omega) 0 (.string q)).other (c := w.heap.size) (by omega) 1 (.int .i64 (m : Int))
      have k2 := E1'.c0
      have f2 := E1'.fr 0
      have F0 := A2.other (c := w.heap.size + 1) (by omega) 0 .nilIface
      have F0a := F0.c0
      have F0b := F0.c1
      have F1a := (E1'.set .nilIface).c0
      have HBF := Lib.hid (((HB.out.setCell (p := ⟨w.heap.size, 0, none⟩) (Nat.le_refl _) (.string q)).setCell (p := ⟨w.heap.size, 1, none⟩) (Nat.le_refl _) (.int .i64 (m : Int))).setCell (p := ⟨w.heap.size + 1, 0, none⟩) (Nat.le_succ _) .nilIface)
      have HF := Lib.hid (And.intro F0a (And.intro F0b F1a))
      clear A1 A2 E1' F0 F0a F0b F1a
      go_wp2
      refine leaves_cons (f := 53) (args := #[.pointer (some ⟨w.heap.size, 0, none⟩), .pointer (some ⟨w.heap.size + 1, 0, none⟩)]) (by simp) (by simp [go_sem]) ?_
      refine (catch_idle ⟨w.heap.size, 0, none⟩ ⟨w.heap.size + 1, 0, none⟩ _).mono ?_
      rintro e u' w'' ⟨rfl, rfl, rfl⟩
      obtain ⟨F0a, F0b, F1a⟩ := HF.out
      simp [Leaves, settle, results, Tryd.results46, go_sem, F0a, F0b, F1a]
      exact ⟨.inl ⟨_, _, R.out, rfl⟩, HBF.out⟩
end Go.Proofs.YtlaepnbkkjdpgaaDoor
