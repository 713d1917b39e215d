/- ShuffleOwn: results are new memory, and no function changes its arguments. Conditions: none. -/
import Derived.Test.YtndbjojjaapeaaaQf
import Derived.Test.YtndbjojjaapeaaaQe
import Derived.Test.YtndbjojjaapeaaaQg
import Derived.Deep.OwnRows
import Derived.ShutString
import Derived.Lib.SmallJoins
/- The walk of Own. -/
namespace Go.Proofs.Ytndbjojjaapeaaa
set_option linter.unusedVariables false
open Go.RowKit

/-- a row of the call's own, whatever it holds -/
def OwnI (w : World) (base : Nat) (u : Value) (n : Nat) : Prop := ∃ xs, w.ownsRow base 3 1 u n xs
theorem OwnI.grown {w w' : World} {base n : Nat} {u : Value} {row : Option Nat} (h : OwnI w base u n) (hg : w.grownBy w' row) (hne : u.ownBlock = none ∨ u.ownBlock ≠ row) : OwnI w' base u n := by
  obtain ⟨xs, h⟩ := h
  exact ⟨xs, h.kept hg hne⟩
theorem OwnI.below {w w' : World} {base n : Nat} {u : Value} (h : OwnI w base u n) (hb : Below w.heap.size w w') : OwnI w' base u n :=
  h.grown (grown_of_below (row := none) hb) (by cases u.ownBlock <;> simp)
theorem OwnI.mono {w : World} {base base' n : Nat} {u : Value} (h : OwnI w base u n) (hb : base' ≤ base) : OwnI w base' u n := by
  obtain ⟨xs, h⟩ := h
  exact ⟨xs, h.mono hb⟩
theorem OwnI.store {w : World} {base n m rb rc : Nat} {u : Value} (h : OwnI w base (.slice (some ⟨rb, 0, none⟩) n rc) n) (k : OwnI w base u m) (j : Nat) (x : Value) : OwnI (w.setCell ⟨rb, j, none⟩ x) base u m := by
  obtain ⟨xs, h⟩ := h
  obtain ⟨s1, s2⟩ := h.stored j x
  obtain ⟨ys, k⟩ := k
  rcases k.2 with ⟨rfl, rfl⟩ | ⟨g, cap, cur, rfl, _⟩
  · exact ⟨ys, k.kept s2 (.inl rfl)⟩
  · by_cases e : g = rb
    · subst e
      exact ⟨_, (k.stored j x).1⟩
    · exact ⟨ys, k.kept s2 (.inr (by simp [Value.ownBlock, e]))⟩
theorem OwnI.cell {W : World} {base rb n rc : Nat} (h : OwnI W base (.slice (some ⟨rb, 0, none⟩) n rc) n) {k : Nat} (hk : k < n) : (∃ u, W.cell? ⟨rb, k, none⟩ = some u) ∧ W.frozen? ⟨rb, k, none⟩ = false := by
  obtain ⟨xs, h⟩ := h
  have hl := h.1
  exact ⟨⟨_, (h.cellAt k (by omega)).trans (List.getElem?_eq_getElem (by omega))⟩, h.frozenAt k⟩
theorem own_ne {w : World} {base base' n m s s' : Nat} {t t' : TypeId} {v u : Value} {xs ys : List Value} (hne : t ≠ t') (h : w.ownsRow base t s v n xs) (k : w.ownsRow base' t' s' u m ys) {b : Nat} (hv : v.ownBlock = some b) (hu : u.ownBlock = some b) : False := by
  rcases h.2 with ⟨rfl, _⟩ | ⟨g, cap, cur, rfl, _, hg, _⟩
  · simp [Value.ownBlock] at hv
  · rcases k.2 with ⟨rfl, _⟩ | ⟨g', cap', cur', rfl, _, hg', _⟩
    · simp [Value.ownBlock] at hu
    · simp only [Value.ownBlock, Option.some.injEq] at hv hu
      subst hv
      subst hu
      rw [hg] at hg'
      simp at hg'
      exact hne hg'.2
theorem OwnI.ne {w : World} {base base' n m s : Nat} {t : TypeId} {v u : Value} {xs : List Value} (h : OwnI w base u m) (ht : t ≠ 3) (k : w.ownsRow base' t s v n xs) {g : Nat} (hv : v.ownBlock = some g) : u.ownBlock = none ∨ u.ownBlock ≠ some g := by
  obtain ⟨ys, h⟩ := h
  exact .inr fun e => own_ne ht k h hv e
/-- the functions, as rows that may be written -/
structure Fn (W : World) (base : Nat) (fv : Value) (np : Nat) (hs : List Value) : Prop where
  spine : W.ownsRow base 22 1 fv np hs
  rows : ∀ u ∈ hs, ∃ k, k ≤ 64 ∧ OwnI W base u k
theorem Fn.grown {W W' : World} {base np : Nat} {fv : Value} {hs : List Value} {row : Option Nat} (h : Fn W base fv np hs) (hg : W.grownBy W' row) (h1 : fv.ownBlock = none ∨ fv.ownBlock ≠ row) (h2 : ∀ u n, OwnI W base u n → u.ownBlock = none ∨ u.ownBlock ≠ row) : Fn W' base fv np hs :=
  ⟨h.spine.kept hg h1, fun u hu => by obtain ⟨k, hk, ho⟩ := h.rows u hu; exact ⟨k, hk, ho.grown hg (h2 u k ho)⟩⟩
theorem Fn.below {W W' : World} {base np : Nat} {fv : Value} {hs : List Value} (h : Fn W base fv np hs) (hb : Below W.heap.size W W') : Fn W' base fv np hs :=
  h.grown (grown_of_below (row := none) hb) (by cases fv.ownBlock <;> simp) (fun u n _ => by cases u.ownBlock <;> simp)
theorem Fn.of_sep {W : World} {base base' : Nat} {fv : Value} {Ls : List (List Int)} (h : Sep W base fv Ls) (hb : base' ≤ base) (hl : ∀ l ∈ Ls, l.length ≤ 64) : ∃ hs, Fn W base' fv Ls.length hs := by
  obtain ⟨hs, ho, hr, _⟩ := h
  have hlen := ho.1
  refine ⟨hs, ho.mono hb, fun u hu => ?_⟩
  obtain ⟨i, hi⟩ := List.mem_iff_getElem?.1 hu
  have hil := (List.getElem?_eq_some_iff.1 hi).1
  obtain ⟨u', h1, h2⟩ := hr i _ (List.getElem?_eq_getElem (by omega))
  obtain rfl : u = u' := Option.some.inj (hi.symm.trans h1)
  exact ⟨_, hl _ (List.getElem_mem _), ⟨_, h2.mono hb⟩⟩
/-- the parts -/
def PtO (W : World) (base g np pc : Nat) : Prop := ∃ xs, W.ownsRow base 42 2 (.slice (some ⟨g, 0, none⟩) np pc) np xs
theorem PtO.below {W W' : World} {base g np pc : Nat} (h : PtO W base g np pc) (hb : Below W.heap.size W W') : PtO W' base g np pc := by
  obtain ⟨xs, h⟩ := h
  exact ⟨xs, own_belowP h hb⟩
/-- the parts are being overwritten -/
structure SmP (w0 : World) (g np pc m cl : Nat) (fv cv fnv : Value) (hs : List Value) (W : World) : Prop where
  below : Below w0.heap.size w0 W
  parts : PtO W w0.heap.size g np pc
  f : OwnI W w0.heap.size fv m
  c : OwnI W w0.heap.size cv cl
  fn : Fn W w0.heap.size fnv np hs
theorem SmP.set {w0 W : World} {g np pc m cl : Nat} {fv cv fnv : Value} {hs : List Value} (h : SmP w0 g np pc m cl fv cv fnv hs W) (j : Nat) (x : Value) : SmP w0 g np pc m cl fv cv fnv hs (W.setCell ⟨g, j, none⟩ x) := by
  obtain ⟨b, ⟨xs, o⟩, f, c, fn⟩ := h
  obtain ⟨s1, s2⟩ := o.stored j x
  exact ⟨b.setCell (p := ⟨g, j, none⟩) (o.lt g rfl).1 x, ⟨_, s1⟩, f.grown s2 (f.ne (by decide) o rfl), c.grown s2 (c.ne (by decide) o rfl), fn.grown s2 (.inr fun e => own_ne (by decide) o fn.spine rfl e) (fun u n k => k.ne (by decide) o rfl)⟩
theorem SmP.cell {w0 W : World} {g np pc m cl : Nat} {fv cv fnv : Value} {hs : List Value} (h : SmP w0 g np pc m cl fv cv fnv hs W) {k : Nat} (hk : k < np) : (∃ u, W.cell? ⟨g, k * 2, none⟩ = some u) ∧ (∃ u, W.cell? ⟨g, k * 2 + 1, none⟩ = some u) ∧ W.frozen? ⟨g, k * 2, none⟩ = false ∧ W.frozen? ⟨g, k * 2 + 1, none⟩ = false := by
  obtain ⟨xs, o⟩ := h.parts
  have hl := o.1
  obtain ⟨a, cap, e1, hc⟩ := own_prs o
  obtain ⟨g', e2, hc⟩ := hc (by omega)
  cases e1
  have e3 := (show (some (⟨g, 0, none⟩ : Addr)) = some ⟨g', 0, none⟩ from e2)
  simp only [Option.some.injEq, Addr.mk.injEq, and_true] at e3
  subst e3
  exact ⟨⟨_, hc _ _ (List.getElem?_eq_getElem (show k * 2 < xs.length by omega))⟩, ⟨_, hc _ _ (List.getElem?_eq_getElem (show k * 2 + 1 < xs.length by omega))⟩, o.frozenAt _, o.frozenAt _⟩
/-- rows that are being overwritten -/
structure Sm (w0 : World) (g N cap : Nat) (hs : List Value) (W : World) : Prop where
  spine : ∃ base1, W.ownsRow base1 22 1 (.slice (some ⟨g, 0, none⟩) N cap) N hs
  rows : ∀ u ∈ hs, ∃ k, k ≤ 64 ∧ OwnI W w0.heap.size u k
  below : Below w0.heap.size w0 W
theorem Sm.at' {w0 W : World} {g N cap : Nat} {hs : List Value} (h : Sm w0 g N cap hs W) {i : Nat} (hi : i < N) : ∃ a n rc, hs[i]? = some (.slice a n rc) ∧ n ≤ 64 ∧ (0 < n → ∃ rb, a = some ⟨rb, 0, none⟩) := by
  obtain ⟨base1, ho⟩ := h.spine
  have hl := ho.1
  obtain ⟨u, hu⟩ : ∃ u, hs[i]? = some u := ⟨_, List.getElem?_eq_getElem (by omega)⟩
  obtain ⟨k, hk, ⟨xs, o⟩⟩ := h.rows u (List.mem_of_getElem? hu)
  obtain ⟨a, rc, rfl, _, hcell⟩ := ownsRow_open o
  exact ⟨a, k, rc, hu, hk, fun h0 => by obtain ⟨rb, rfl, _⟩ := hcell h0; exact ⟨rb, rfl⟩⟩
theorem Sm.cell {w0 W : World} {g N cap i : Nat} {u : Value} {hs : List Value} (h : Sm w0 g N cap hs W) (hu : hs[i]? = some u) : W.cell? ⟨g, i, none⟩ = some u := by
  obtain ⟨base1, ho⟩ := h.spine
  have hl := ho.1
  exact (ho.cellAt i (by have := (List.getElem?_eq_some_iff.1 hu).1; omega)).trans hu
theorem Sm.own {w0 W : World} {g N cap i n rc : Nat} {a : Option Addr} {hs : List Value} (h : Sm w0 g N cap hs W) (hu : hs[i]? = some (.slice a n rc)) : OwnI W w0.heap.size (.slice a n rc) n := by
  obtain ⟨k, hk, ⟨xs, o⟩⟩ := h.rows _ (List.mem_of_getElem? hu)
  have hv := o
  obtain ⟨a', rc', e, _, _⟩ := ownsRow_open o
  cases e
  exact ⟨xs, o⟩
theorem Sm.store {w0 W : World} {g N cap n rb rc : Nat} {hs : List Value} (h : Sm w0 g N cap hs W) (k : OwnI W w0.heap.size (.slice (some ⟨rb, 0, none⟩) n rc) n) (j : Nat) (x : Value) : Sm w0 g N cap hs (W.setCell ⟨rb, j, none⟩ x) := by
  obtain ⟨xs, ho⟩ := k
  obtain ⟨base1, hsp⟩ := h.spine
  refine ⟨⟨base1, hsp.kept (ho.stored j x).2 (.inr fun e => own_apart hsp ho e rfl)⟩, fun u hu => ?_, h.below.setCell (p := ⟨rb, j, none⟩) (ho.lt rb rfl).1 x⟩
  obtain ⟨k, hk, o⟩ := h.rows u hu
  exact ⟨k, hk, OwnI.store ⟨xs, ho⟩ o j x⟩
/-- what the walk wants to know -/
structure OwW (x : Int) (P F C : List Int) (m : Nat) : Prop where
  m2 : 2 ≤ m
  m64 : m ≤ 64
  w2 : IntKind.i64.wrap (2 + (modV x 63 : Int)) = (m : Int)
  pol : polyB m P = true
  val : valuesL m P = F
  flen : F.length = m
  fin : ∀ v ∈ F, 0 ≤ v ∧ v < m
  frm : formR m (fun x => F.getD x 0) = some C
  cd : C.length ≤ 64
theorem owW (x : Int) (row : List Int) : ∃ F C m, OwW x (tamL m row) F C m := by
  have hr := modV_lt x 63 (by omega)
  obtain ⟨m, hm⟩ : ∃ m, modV x 63 + 2 = m := ⟨_, rfl⟩
  obtain ⟨F, C, h1, h2, h3, h4, h5, _⟩ := pol_form (m := m) (by omega) (by omega) (tamL m row)
  exact ⟨F, C, m, by omega, by omega, by rw [IntWalk.i64_in _ (by omega)]; omega, tamL_poly (by omega) (by omega) row, h1, h2, h3, h4, h5⟩

set_option maxRecDepth 100000 in
set_option maxHeartbeats 8000000 in
theorem own_walk (x : Int) (pv : Value) (row F C : List Int) (m : Nat) (w : World) (hP : RowIn w pv row) (h : OwW x (tamL m row) F C m) : Calls Try.prog 16 #[.int .i64 x, pv] w fun e w' => e = .returned (.bool true) ∧ Below w.heap.size w w' := by
  obtain ⟨i1, hj, hy0, hy1, hy2⟩ := info_parts info_ints
  obtain ⟨hm, hm2, w2, hpol, hval, hfl, hfin, hfrm, hcd⟩ := h
  have HM := Lib.hid (mod_val x 63 w (by omega) (by omega))
  have HTP := Lib.hid (tame_in m pv row w (by omega) hm2 hP)
  obtain ⟨hp12, hpin⟩ := tamL_in (m := m) (by omega) row
  generalize modV x 63 = r at *
  generalize tamL m row = P at *
  obtain ⟨n, hn⟩ : ∃ n, P.length = n := ⟨_, rfl⟩
  rw [hn] at HTP hp12
  have HLi := Lib.hid fun a cap W hW hc => list_own n a cap P W hW hc (by omega)
  have HV := Lib.hid fun a cap W hW => Values_yes m a n cap P W hW hpol
  have hRv := fun a cap W hW => refValues_any m a n cap P W hW (by omega) hm hm2 hpin
  rw [hval] at HV hRv
  have HRv := Lib.hid hRv
  have HLf := Lib.hid fun a cap W hW hc => list_own m a cap F W hW hc (by omega)
  have HFo := Lib.hid fun a cap W hW => Form_some m a cap F C W hW hm hm2 hfin hfrm
  have HAf := Lib.hid fun fa ga fc gc W hf hg => After_yes m fa ga fc gc F F W hf hg hm hm2 hfin hfin
  have HI := Lib.hid fun a b ca cb W h1 h2 => ints_true a b n ca cb P W h1 h2 (by omega)
  have HIf := Lib.hid fun a b ca cb W h1 h2 => ints_true a b m ca cb F W h1 h2 (by omega)
  have HIf2 := Lib.hid HIf.out
  have hSs := fun a cap W hW => Split_sep m a n cap P W hW hpol
  have hSp := fun a cap W hW => Split_yes m a n cap P W hW hpol
  obtain ⟨q1, q2, q3⟩ := parts_facts ⟨m, by omega⟩ hm
  simp only at q1 q2 q3
  have hspl : (spL m P).length = (partsL m).length := by unfold spL; rw [List.length_map]
  have hl64 : ∀ l ∈ spL m P, l.length ≤ 64 := fun l hl => by
    unfold spL at hl
    obtain ⟨pk, hpk, rfl⟩ := List.mem_map.1 hl
    rw [List.all_eq_true] at q1
    have h4 := of_decide_eq_true (q1 pk hpk)
    rw [valuesL_len]
    exact h4.2.2.2.2.2
  obtain ⟨l0, hl0, hr0⟩ : ∃ l0, (spL m P)[0]? = some l0 ∧ remB m l0 = true := by
    obtain ⟨pk, hpk⟩ : ∃ pk, (partsL m)[0]? = some pk := ⟨_, List.getElem?_eq_getElem (by omega)⟩
    refine ⟨valuesL (powN pk.1 pk.2) P, by unfold spL; rw [List.getElem?_map, hpk]; rfl, ?_⟩
    have hq : powN pk.1 pk.2 ∈ powL m := List.mem_map.2 ⟨pk, List.mem_of_getElem? hpk, rfl⟩
    obtain ⟨d1, d2⟩ := powL_facts hm hm2 _ hq
    have hle : powN pk.1 pk.2 ≤ m := Nat.le_of_dvd (by omega) (Nat.dvd_of_mod_eq_zero d1)
    unfold remB
    rw [List.all_eq_true]
    intro v hv
    have := valuesL_in (m := powN pk.1 pk.2) (by omega) P v hv
    exact decide_eq_true ⟨this.1, by omega⟩
  have hl0n := hl64 _ (List.mem_of_getElem? hl0)
  have hRl := fun a cap W hW => refListed_any m a l0.length cap l0 W hW (by omega)
  rw [hr0] at hRl
  generalize spL m P = Ls at *
  generalize partsL m = L at *
  obtain ⟨np, hnp⟩ : ∃ n, L.length = n := ⟨_, rfl⟩
  rw [hnp] at hSs hSp hspl q2 q3
  have HSs := Lib.hid hSs
  have HSp := Lib.hid hSp
  have Hspl := Lib.hid hspl
  have Hl64 := Lib.hid hl64
  have Hl0 := Lib.hid hl0
  have Hn1 := Lib.hid (show 0 < np by omega)
  have Hm := Lib.hid (show 0 < m by omega)
  have HA := Lib.hid fun w => awake_any w
  have hne1 : ((np : Int) == np) = true := by simp
  have hgt : decide ((0 : Int) < np) = true := by simp; omega
  obtain ⟨n0, hn0⟩ : ∃ n0, l0.length = n0 := ⟨_, rfl⟩
  rw [hn0] at hRl
  have Hn0 := Lib.hid hn0
  have HRl := Lib.hid hRl
  generalize hcl : C.length = cl at *
  clear hval hfl hfin hfrm hpol hpin hn hn0 hl0n hRv hSs hSp hspl hl64 hl0 hRl hnp q1 hP hr0 hcl
  go_enter Try.func16, Try.ntmps16
  go_wp2_with fail
  refine (HM.out).mono ?_
  rintro e w1 ⟨rfl, hw⟩
  subst w1
  go_wp2_with fail
  refine (HTP.out).mono ?_
  rintro e w2 ⟨v2, rfl, ho, b2⟩
  have B2 := Lib.hid b2
  clear b2
  obtain ⟨a1, c1, hv, hc1, r2⟩ := own_slice ho
  subst v2
  have RL := Lib.hid r2
  clear ho r2
  go_wp2_with fail
  refine (HLi.out _ _ _ RL.out hc1).mono ?_
  rintro e w3 ⟨v3, rfl, ho, b3⟩
  have B3 := Lib.hid (b_next B2.out b3)
  clear B2
  replace RL := Lib.hid (RL.out.below b3)
  clear b3
  obtain ⟨a2, c2, hv, hc2, r3⟩ := own_slice ho
  subst v3
  have RQ := Lib.hid r3
  clear ho r3
  have RL0 := Lib.hid RL.out
  have RQ0 := Lib.hid RQ.out
  have BT0 := Lib.hid B3.out
  have BT := Lib.hid (Below.refl w3.heap.size w3)
  clear B3
  go_wp2_with fail
  refine (HV.out _ _ _ RL.out).mono ?_
  rintro e w4 ⟨v4, rfl, ho, b4⟩
  have OF : Hid (OwnI w4 w3.heap.size v4 _) := ⟨_, ho.mono BT.out.size⟩
  have B4 := Lib.hid (b_next BT.out b4)
  clear BT
  replace RL := Lib.hid (RL.out.below b4)
  replace RQ := Lib.hid (RQ.out.below b4)
  clear b4
  obtain ⟨a3, c3, hv, hc3, r4⟩ := own_slice ho
  subst v4
  have RF := Lib.hid r4
  clear ho r4
  go_wp2_with fail
  refine (HLf.out _ _ _ RF.out hc3).mono ?_
  rintro e w5 ⟨v5, rfl, ho, b5⟩
  have B5 := Lib.hid (b_next B4.out b5)
  clear B4
  replace RL := Lib.hid (RL.out.below b5)
  replace RQ := Lib.hid (RQ.out.below b5)
  replace RF := Lib.hid (RF.out.below b5)
  replace OF := Lib.hid (OF.out.below b5)
  clear b5
  obtain ⟨a4, c4, hv, hc4, r5⟩ := own_slice ho
  subst v5
  have RG := Lib.hid r5
  clear ho r5
  go_wp2_with fail
  refine (HFo.out _ _ _ RF.out).mono ?_
  rintro e w6 ⟨v6, rfl, ho, b6⟩
  have OC : Hid (OwnI w6 w3.heap.size v6 _) := ⟨_, ho.mono B5.out.size⟩
  have B6 := Lib.hid (b_next B5.out b6)
  clear B5
  replace RL := Lib.hid (RL.out.below b6)
  replace RQ := Lib.hid (RQ.out.below b6)
  replace RF := Lib.hid (RF.out.below b6)
  replace OF := Lib.hid (OF.out.below b6)
  replace RG := Lib.hid (RG.out.below b6)
  clear b6
  obtain ⟨a5, c5, hv, hc5, r6⟩ := own_slice ho
  subst v6
  have RC := Lib.hid r6
  clear ho r6
  clear RC
  go_wp2_with fail
  refine (HAf.out _ _ _ _ _ RF.out RF.out).mono ?_
  rintro e w7 ⟨v7, rfl, ho, b7⟩
  have B7 := Lib.hid (b_next B6.out b7)
  clear B6
  replace RL := Lib.hid (RL.out.below b7)
  replace RQ := Lib.hid (RQ.out.below b7)
  replace RF := Lib.hid (RF.out.below b7)
  replace OF := Lib.hid (OF.out.below b7)
  replace RG := Lib.hid (RG.out.below b7)
  replace OC := Lib.hid (OC.out.below b7)
  clear b7
  obtain ⟨a6, c6, hv, hc6, r7⟩ := own_slice ho
  subst v7
  have RA := Lib.hid r7
  clear ho r7
  clear RA
  go_wp2_with fail
  refine (HSs.out _ _ _ RL.out).mono ?_
  rintro e wS ⟨pv', fv', rfl, op, hsep, bS⟩
  have hop := op.mono B7.out.size
  have hfn := Fn.of_sep hsep B7.out.size Hl64.out
  rw [Hspl.out] at hfn
  obtain ⟨hs, hfn⟩ := hfn
  obtain ⟨pa, pc, rfl, hpc⟩ := own_prs op
  obtain ⟨g1, rfl, _⟩ := hpc Hn1.out
  obtain ⟨fa, fc, rfl⟩ := own_form hfn.spine
  have OP : Hid (PtO wS w3.heap.size g1 np pc) := ⟨_, hop⟩
  have FN := Lib.hid hfn
  clear hpc hop hfn op hsep
  have B8 := Lib.hid (b_next B7.out bS)
  clear B7
  replace RL := Lib.hid (RL.out.below bS)
  replace RQ := Lib.hid (RQ.out.below bS)
  replace RF := Lib.hid (RF.out.below bS)
  replace OF := Lib.hid (OF.out.below bS)
  replace RG := Lib.hid (RG.out.below bS)
  replace OC := Lib.hid (OC.out.below bS)
  clear bS
  go_wp2_with fail
  refine (HI.out _ _ _ _ _ RL.out RQ.out).mono ?_
  rintro e w9 ⟨rfl, hq⟩
  have b9 := drew_below hq
  clear hq
  have B9 := Lib.hid (b_next B8.out b9)
  clear B8
  replace RL := Lib.hid (RL.out.below b9)
  replace RQ := Lib.hid (RQ.out.below b9)
  replace RF := Lib.hid (RF.out.below b9)
  replace OF := Lib.hid (OF.out.below b9)
  replace RG := Lib.hid (RG.out.below b9)
  replace OC := Lib.hid (OC.out.below b9)
  replace OP := Lib.hid (OP.out.below b9)
  replace FN := Lib.hid (FN.out.below b9)
  clear b9
  go_wp2_with fail
  refine (HIf.out _ _ _ _ _ RF.out RG.out).mono ?_
  rintro e w10 ⟨rfl, hq⟩
  have b10 := drew_below hq
  clear hq
  have B10 := Lib.hid (b_next B9.out b10)
  clear B9
  replace RL := Lib.hid (RL.out.below b10)
  replace RQ := Lib.hid (RQ.out.below b10)
  replace RF := Lib.hid (RF.out.below b10)
  replace OF := Lib.hid (OF.out.below b10)
  replace RG := Lib.hid (RG.out.below b10)
  replace OC := Lib.hid (OC.out.below b10)
  replace OP := Lib.hid (OP.out.below b10)
  replace FN := Lib.hid (FN.out.below b10)
  clear b10
  have SP : Hid (SmP w3 g1 np pc m cl (.slice a3 m c3) (.slice a5 cl c5) (.slice fa np fc) hs w10) := ⟨B10.out, OP.out, OF.out, OC.out, FN.out⟩
  clear OP OF OC FN RF RG RL RQ B10 HSs HFo HAf HLf HIf HLi
  go_wp2
  go_loopw [15] (fun i wr => ∃ k : Nat, k ≤ np ∧ i = .int .i64 k ∧ Hid (SmP w3 g1 np pc m cl (.slice a3 m c3) (.slice a5 cl c5) (.slice fa np fc) hs wr)) (fun i _ => np - (intOf i).toNat)
  case atStart => exact ⟨0, Nat.zero_le _, rfl, SP.out⟩
  case round =>
    clear SP
    obtain ⟨k, hk, rfl, SP⟩ := hrel
    by_cases hlt : k < np
    · have hc : (k : Int) < np := by omega
      obtain ⟨⟨u0, hu0⟩, ⟨u1, hu1⟩, hf0, hf1⟩ := SP.out.cell hlt
      have SP2 := Lib.hid ((SP.out.set (k * 2) (.int .i64 (-7))).set (k * 2 + 1) (.int .i64 (-7)))
      clear SP
      go_wp2
      go_roundw
      case rel => exact ⟨k + 1, by omega, by go_num, SP2.out⟩
      case measure => simp [intOf]; omega
    · obtain rfl : k = np := by omega
      have hc : ¬ (k : Int) < (k : Int) := by omega
      clear hk hlt
      generalize wr = W1 at *
      obtain ⟨aS, cS, hvS, hlS, hcS⟩ := ownsRow_open SP.out.fn.spine
      cases hvS
      obtain ⟨gS, rfl, _, hgS, hcell⟩ := hcS Hn1.out
      have hone : ∀ u ∈ hs, u.oneCell' = true := fun u hu => by
        obtain ⟨_, _, xs, ho⟩ := SP.out.fn.rows u hu
        obtain ⟨a', c', rfl, -⟩ := Row.of_own ho
        simp [Value.oneCell']
      have hal2 : ∀ y u, hs[y]? = some u → (W1.alloc (.cells #[.slice a3 m c3, .slice a5 cl c5] 22)).cell? ((⟨gS, 0, none⟩ : Addr).add y) = some u := fun y u hy => by
        rw [addr_add, Nat.zero_add]
        exact ((below_alloc W1 _).cell (p := ⟨gS, y, none⟩) hgS).trans (hcell y u hy)
      have hlit := World.ownsRow_lit (base := W1.heap.size) (e := 22) (size := 1) W1 #[.slice a3 m c3, .slice a5 cl c5] 2 (Nat.le_refl _) (by unfold maxLen; omega) rfl
      have hncS : k ≤ fc := by
        rcases SP.out.fn.spine.2 with ⟨h, _⟩ | ⟨g', cap', cur', h, _, _, h4, _⟩
        · simp at h
        · simp at h; omega
      have Hal2 := Lib.hid hal2
      have Hone := Lib.hid hone
      have HlS := Lib.hid hlS
      have Hlit := Lib.hid hlit
      clear hlS hcS hcell hone hal2 hlit
      go_wp2_with (at_builtin; refine wpList_append_own _ rfl _ _ 30 rfl W1.heap.size 22 i1 (.slice none 0 0) 1 24 Try.underlying30 hj hy0 hy1 hy2 rfl (by decide) _ _ _ rfl Hlit.out ⟨gS, 0, none⟩ k fc hs rfl (by have := HlS.out; omega) Hal2.out Hone.out (by unfold maxLen; omega) (by omega) (by simp) ?_; intro v1 w60 hown1 hgrow1 _)
      have hB60 : Below W1.heap.size W1 w60 := rel_push ((Below.refl _ _).alloc (Nat.le_refl _) _) (by simp) (Below.refl _ _) Hlit.out hgrow1
      have B60 := Lib.hid (b_next SP.out.below hB60)
      have hrows : ∀ u ∈ [Value.slice a3 m c3, .slice a5 cl c5] ++ hs, ∃ n, n ≤ 64 ∧ OwnI w60 w3.heap.size u n := fun u hu => by
        rcases List.mem_append.1 hu with h | h
        · simp only [List.mem_cons, List.not_mem_nil, or_false] at h
          rcases h with rfl | rfl
          · exact ⟨m, hm2, SP.out.f.below hB60⟩
          · exact ⟨cl, hcd, SP.out.c.below hB60⟩
        · obtain ⟨n', h1, h2⟩ := SP.out.fn.rows u h
          exact ⟨n', h1, h2.below hB60⟩
      obtain ⟨gA, cA, hv1⟩ : ∃ gA cA, v1 = .slice (some ⟨gA, 0, none⟩) (2 + k) cA := by
        rcases hown1.2 with ⟨_, h⟩ | ⟨g', cap', cur', h, _⟩
        · omega
        · exact ⟨g', cap', h⟩
      rw [hv1] at hown1 ⊢
      have hSm : Sm w3 gA (2 + k) cA ([.slice a3 m c3, .slice a5 cl c5] ++ hs) w60 := ⟨⟨_, by simpa using hown1⟩, hrows, B60.out⟩
      generalize [Value.slice a3 m c3, .slice a5 cl c5] ++ hs = all at hSm
      obtain ⟨N, hN⟩ : ∃ N, 2 + k = N := ⟨_, rfl⟩
      have hN11 : N ≤ 5 := by omega
      rw [hN] at hSm ⊢
      have SM := Lib.hid hSm
      clear hown1 hgrow1 hB60 hrows hv1 hSm hN Hal2 Hone HlS Hlit hncS hgS B60 SP
      go_wp2
      go_loopw [17, 18] (fun x _ wr => ∃ i : Nat, i ≤ N ∧ x = .int .i64 i ∧ Hid (Sm w3 gA N cA all wr)) (fun x _ _ => N - (intOf x).toNat)
      case atStart => exact ⟨0, Nat.zero_le _, rfl, SM.out⟩
      case round =>
        clear SM
        obtain ⟨i, hi, rfl, SM⟩ := hrel
        by_cases hlt : i < N
        · have hc : (i : Int) < N := by omega
          obtain ⟨ra, nr, rc, hu, hn64, hra⟩ := SM.out.at' hlt
          have Hu := Lib.hid hu
          have Hra := Lib.hid hra
          clear hu hra
          go_wp2
          go_loopw [18] (fun y wr => ∃ j : Nat, j ≤ nr ∧ y = .int .i64 j ∧ Hid (Sm w3 gA N cA all wr)) (fun y _ => nr - (intOf y).toNat)
          case atStart => exact ⟨0, Nat.zero_le _, rfl, SM.out⟩
          case round =>
            clear SM
            obtain ⟨j, hj', rfl, SM⟩ := hrel
            have hc1 := SM.out.cell Hu.out
            by_cases hlk : j < nr
            · have hc2 : (j : Int) < nr := by omega
              obtain ⟨rb, rfl⟩ := Hra.out (by omega)
              have ho := SM.out.own Hu.out
              obtain ⟨⟨u, hu⟩, hf⟩ := ho.cell hlk
              have SM1 := Lib.hid (SM.out.store ho j (.int .i64 (-7)))
              clear SM ho
              go_wp2
              go_roundw
              case rel => exact ⟨j + 1, by omega, by go_num, SM1.out⟩
              case measure => simp [intOf]; omega
            · obtain rfl : j = nr := by omega
              have hc2 : ¬ (j : Int) < j := by omega
              go_wp2
              go_roundw
              case rel => exact ⟨i + 1, by omega, by go_num, SM.out⟩
              case measure => simp [intOf]; omega
        · have hc : ¬ (i : Int) < N := by omega
          have RL := Lib.hid (RL0.out.below SM.out.below)
          have RQ := Lib.hid (RQ0.out.below SM.out.below)
          have BZ := Lib.hid (b_next BT0.out SM.out.below)
          clear SM RL0 RQ0 BT0
          go_wp2_with fail
          refine (HV.out _ _ _ RL.out).mono ?_
          rintro e w81 ⟨v81, rfl, ho, b81⟩
          have B81 := Lib.hid (b_next BZ.out b81)
          clear BZ
          replace RL := Lib.hid (RL.out.below b81)
          replace RQ := Lib.hid (RQ.out.below b81)
          clear b81
          obtain ⟨a9, c9, hv, hc9, r81⟩ := own_slice ho
          subst v81
          have RF := Lib.hid r81
          clear ho r81
          go_wp2_with fail
          refine (HSp.out _ _ _ RL.out).mono ?_
          rintro e wX ⟨pv2, fv2, rfl, op, hl, bX⟩
          obtain ⟨pa2, pc2, rfl, _⟩ := own_prs op
          obtain ⟨la, lc, hfv, _, _, htb⟩ := hl.tbl
          rw [Hspl.out] at hfv
          subst hfv
          obtain ⟨gL, rL, rcL, rfl, hgL, c1', _, hrow⟩ := htb.row Hl0.out
          have TL := Lib.hid htb
          clear op hl htb hrow c1' hgL
          have B82 := Lib.hid (b_next B81.out bX)
          clear B81
          replace RL := Lib.hid (RL.out.below bX)
          replace RQ := Lib.hid (RQ.out.below bX)
          replace RF := Lib.hid (RF.out.below bX)
          clear bX
          go_wp2_with fail
          refine (HI.out _ _ _ _ _ RL.out RQ.out).mono ?_
          rintro e w83 ⟨rfl, hq⟩
          have b83 := drew_below hq
          clear hq
          have B83 := Lib.hid (b_next B82.out b83)
          clear B82
          replace RL := Lib.hid (RL.out.below b83)
          replace RQ := Lib.hid (RQ.out.below b83)
          replace RF := Lib.hid (RF.out.below b83)
          replace TL := Lib.hid (TL.out.below b83)
          clear b83
          go_wp2_with fail
          refine (HRv.out _ _ _ RQ.out).mono ?_
          rintro e w84 ⟨v84, rfl, ho, b84⟩
          have B84 := Lib.hid (b_next B83.out b84)
          clear B83
          replace RL := Lib.hid (RL.out.below b84)
          replace RQ := Lib.hid (RQ.out.below b84)
          replace RF := Lib.hid (RF.out.below b84)
          replace TL := Lib.hid (TL.out.below b84)
          clear b84
          obtain ⟨b9, d9, hv, hd9, r84⟩ := own_slice ho
          subst v84
          have RV := Lib.hid r84
          clear ho r84
          go_wp2_with fail
          refine (HIf2.out _ _ _ _ _ RF.out RV.out).mono ?_
          rintro e w85 ⟨rfl, hq⟩
          have b85 := drew_below hq
          clear hq
          have B85 := Lib.hid (b_next B84.out b85)
          clear B84
          replace RL := Lib.hid (RL.out.below b85)
          replace RQ := Lib.hid (RQ.out.below b85)
          replace RF := Lib.hid (RF.out.below b85)
          replace TL := Lib.hid (TL.out.below b85)
          replace RV := Lib.hid (RV.out.below b85)
          clear b85
          obtain ⟨gL', rL', rcL', e9, hgL, cL, _, hrow⟩ := TL.out.row Hl0.out
          rw [Hn0.out] at cL hrow
          cases e9
          have RW := Lib.hid hrow
          clear hrow
          go_wp2_with fail
          refine (HRl.out _ _ _ RW.out).mono ?_
          rintro e w86 ⟨rfl, hw⟩
          subst w86
          go_wp2_with fail
          refine (HA.out _).mono ?_
          rintro e w87 ⟨rfl, b87⟩
          have B87 := Lib.hid (b_next B85.out b87)
          clear B85
          replace RL := Lib.hid (RL.out.below b87)
          replace RQ := Lib.hid (RQ.out.below b87)
          replace RF := Lib.hid (RF.out.below b87)
          replace TL := Lib.hid (TL.out.below b87)
          replace RV := Lib.hid (RV.out.below b87)
          replace RW := Lib.hid (RW.out.below b87)
          clear b87
          go_wp2
          go_ret
          exact ⟨rfl, B87.out⟩
theorem walk_ShuffleOwn (x : Int) (_ : (Lit.int .i64 x).wf = true) (pv : Value) (rp : List Int) (w : World) (hP : RowIn w pv rp) : Calls Try.prog 16 #[.int .i64 x, pv] w fun e w' => e = .returned (.bool true) ∧ Below w.heap.size w w' := by
  obtain ⟨F, C, m, h⟩ := owW x rp
  exact own_walk x pv rp F C m w hP h
end Go.Proofs.Ytndbjojjaapeaaa

/- ShuffleOwn: results are new memory, and no function changes its arguments. Conditions: none. -/
namespace Go.Proofs.Ytndbjojjaapeaaa
set_option linter.unusedVariables false

namespace lawShuffleOwn
open Go.ChangeShapes Go.WideShapes Go.ChangeAt Go.RowKit
open Go.ChangeMaps (open_string shut_string)

theorem own : ownKnob Try.prog.godebug = none := by kernel_rfl
theorem lay : laidOutB Try.prog = true := by kernel_rfl

set_option maxRecDepth 100000 in
theorem lifted (os : Os) (started : os.Started) (H : Type) (enc : TypeId × Value → H) :
    ReturnsInHanded {} Try.checked os 16 .any (Rows.shuffleOwnSpec.pre6 enc Try.prog Try.f16 Rows.shuffleOwnRow.domain false) (Rows.shuffleOwnSpec.post enc Try.prog Try.f16 false true false false) := by
  refine returnsInHanded_of_change (C := Try.checked) own started (by kernel_rfl) Try.func16
    (ChangeSpec.witness6 (enc := enc) (C := Try.checked) false ⟨#[], #[.int .i64 0, .slice none 0 0], []⟩ 8 (by kernel_rfl) (by kernel_rfl) (by kernel_rfl) (by kernel_rfl)) ?_
  intro W base args ds gs before hval0 hW hcnd _
  have hval : ∀ (j : Nat) t v, Try.f16.params[j]? = some t → args[j]? = some v → Value.okWide Try.prog W .any base t v := hval0
  have hW' := hW
  obtain ⟨p, q, hA0, hV, rfl, hfz, hnd⟩ := hW
  have hA : DataW.TrodAll enc Try.prog W 0 (fun _ => true) true Try.f16.params.toList args.toList ds p := hA0
  rw [Try.params16] at hA hval
  obtain ⟨v0, vs0, d0, ds0, p0, q0, hargs, rfl, rfl, h0, r0⟩ := trodAll_cons hA
  obtain ⟨v1, vs1, d1, ds1, p1, q1, rfl, rfl, rfl, h1, r1⟩ := trodAll_cons r0
  obtain ⟨rfl, rfl, rfl⟩ := trodAll_nil r1
  obtain rfl : args = #[v0, v1] := by cases args; simp_all
  obtain ⟨rfl, rfl⟩ := trodVars_none hV
  obtain ⟨a0, rfl, rfl, rfl, w0⟩ := open_int Try.underlying3 (hval 0 3 v0 rfl rfl) h0
  obtain ⟨a1, len1, cap1, rfl⟩ := okWide_slice Try.underlying22 (hval 1 22 v1 rfl rfl)
  have k1 := h1
  have lt1 : ∀ x ∈ p1, x.block < W.heap.size := by obtain ⟨m, hm⟩ := k1; exact DataW.trod_lt m _ _ _ hm
  obtain ⟨z1, w1⟩ : ∃ C, RowIn W (.slice a1 len1 cap1) C := by
    obtain ⟨fuel, hf⟩ := h1
    exact rowIn_of Try.underlying22 Try.underlying3 (by kernel_rfl) hf
  clear hA0 hval0
  refine (walk_ShuffleOwn a0 w0 _ z1 W w1).mono fun e W' ⟨he, bel⟩ => ?_
  subst he
  exact ⟨_, rfl, _, _, _, [], _, [], hW', trodAll_mk1 (shut_bool Try.underlying4 _), (trodAll_cons_mk (shut_int Try.underlying3 w0) (trodAll_cons_mk (Below.trod lay (by kernel_rfl) (of_decide_eq_true (by kernel_rfl)) k1 bel lt1) trodAll_mk0)), rfl, bel.frame _, fun h => by cases h⟩

theorem over : Rows.shuffleOwnRow.holds Try.pinned (OpenSpec.ofChange Rows.shuffleOwnSpec) :=
  OpenClaim.holds_of_wide 16 Try.f16 rfl rfl rfl rfl rfl rfl rfl ⟨rfl, rfl, rfl, rfl, rfl⟩ rfl rfl rfl rfl rfl (by kernel_rfl) Try.func16 (by kernel_rfl)
    (of_decide_eq_true (by kernel_rfl)) (by unfold Func.isWrapper; first | (rw [if_pos (by decide +kernel)]; kernel_rfl) | (rw [if_neg (by decide +kernel)]; exact ⟨rfl, rfl⟩))
    (fun os started H enc _ => lifted os started H enc)

theorem proved : Rows.ShuffleOwnSaid := over
end lawShuffleOwn
end Go.Proofs.Ytndbjojjaapeaaa
