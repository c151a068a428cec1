import PyProof.Rows.All
import Wide.All
import OpenK.AllK
import Wide.FinOn
import Open.SpecLaws
import KE.OsGo
import HandS.ForSpec
import HandS.Evl
import HandS.Iter
import HandS.Zip
import HandS.Walk
import HandS.Dict
import KE.KDictKeyed
import PyKzs2
import PySem.Challenge.RW_threecolours_s03_found
set_option Elab.async false
set_option maxRecDepth 100000
set_option maxHeartbeats 2000000
/-! ### A. A list's extend by a tuple; tuples that stand at addresses -/
namespace Tri
open PySem PySem.Spec PyProof.Rows L2
section
open PySem.AutoSeq1
theorem ext_tup (l b : Addr) (us : Array Value) (n : Nat) (ws : Array Value) (k : Nat) (dd : Option Addr) (sl : Array (Option Value))
    (h0 : ¬ (!us.isEmpty && Builtin.List.listTooLong (us.size + ws.size)) = true) (h1 : us.size ≤ sizeLine) (h2 : us.size + ws.size ≤ sizeLine + 1) :
    Meets (Builtin.«list.extend» ⟨[.ref l, .ref b], []⟩) (fun _ R s =>
      s.heap.get? l = some { cls := .type "list", dict := none, data := .seq us n, slots := #[] } ∧
      s.heap.get? b = some { cls := .type "tuple", dict := dd, data := .seq ws k, slots := sl } ∧
      R (.ok (.ret Value.none)) { s with heap := s.heap.update l (Obj.mapSeq fun x => x ++ ws), toks := s.toks }) :=
  Meets.of_wp fun _ _ _ R S hS => by
    obtain ⟨S1, S2, S3, S4, S5⟩ := S
    obtain ⟨atl, atb, fin⟩ := hS
    have u1 := AutoSeq1.idx_int
    have u2 := AutoSeq1.sub_tuple_tuple
    have u3 := AutoSeq1.sub_list_list
    have u4 := AutoSeq1.sub_tuple_list
    have u5 := AutoSeq1.sub_list_tuple
    have room : (us ++ ws).size ≤ sizeLine + 1 := by
      rw [Array.size_append]
      exact h2
    wp_walk using (wpAny_updateSeq atl rfl (hz := h1) (_hz' := room)), wpAny_loadPart' atl, wpAny_loadPart' atb
    exact ⟨_, rfl, fin⟩
end
def rExtT (K : PySem.W.Frag) : V → List V → Hp → VK → Prop := fun x vs H Q => ∃ l b us ws, x = .ref l ∧ vs = [.ref b] ∧
  H l = some (.lst us) ∧ SqT K H b ws ∧ us.length + ws.length ≤ sizeLine ∧ Q .non (upd H l (.lst (us ++ ws)))
theorem mt_extT {X : Cx} : MtM X "list.extend" (rExtT X.K) := by
  intro ps S st Hp0 xv args xval vals Qk inv rel rels told
  obtain ⟨l, b, old, more, rfl, rfl, atL, atB, short, fin⟩ := told
  cases rel
  obtain ⟨arg, rfl, relA⟩ := rels.one
  cases relA
  obtain ⟨z, ia, n, rOld, hl, objL⟩ := inv.lstM atL
  obtain ⟨ib, rMore, ⟨⟨oc, od, oda, osl⟩, objB, ec, k, ed⟩, _⟩ := inv.tuple atB
  cases ec
  cases ed
  have lenB := rMore.length
  have both : ia.toArray.size + ib.toArray.size ≤ sizeLine := by
    simp only [List.size_toArray]
    omega
  have notLong : ¬ (!ia.toArray.isEmpty && Builtin.List.listTooLong (ia.toArray.size + ib.toArray.size)) = true := by
    intro bad
    rw [notLongL both, Bool.and_false] at bad
    cases bad
  have small : ia.toArray.size ≤ sizeLine := by omega
  refine call_meets F.slot_list_extend ⟨_, objL, rfl⟩ F.entry_list_extend (F.args_list_extend_2 ..)
    (ext_tup l b ia.toArray n ib.toArray k od osl notLong small (by omega)) ⟨objL, objB, .non, _, inv.lset (its' := ia ++ ib) atL objL (by simp) (rOld.append rMore) ?_, rfl, fin⟩
  simp only [List.length_append]
  omega
end Tri

/-! ### B. Short words: operations, a def that may be called, a module's number; lists of tuples -/
namespace Tri
open PySem PySem.Spec PyProof.Rows L2 Evl
abbrev rAddI : R2 := rI0 fun i j => .int (i + j)
abbrev rSubI : R2 := rI0 fun i j => .int (i - j)
abbrev rLtI : R2 := rI0 fun i j => .bl (decide (i < j))
abbrev rLeI : R2 := rI0 fun i j => .bl (decide (i ≤ j))
abbrev rGtI : R2 := rI0 fun i j => .bl (decide (j < i))
abbrev rGeI : R2 := rI0 fun i j => .bl (decide (j ≤ i))
/-- a def that stands under a name, keeps a promise, and takes its arguments by place -/
def Has (P : Program) (w : World) (K : PySem.W.Frag) (mg : Str → Option Value) (base : Heap) (k : Nat) (x : Str) (ps : List Str) (sp : Sp) : Prop :=
  ∃ f fd, mg x = some (.ref f) ∧ FnOk P w K mg base CX0 k f fd ps sp ∧ PySem.W.keepIn K (.ref f) = true ∧ Binds K fd ps []
section
variable {X : Cx}
theorem pe_g {x : Str} {v : V} {pos : Pos} (hg : Gl X x) (h : ∃ u, X.mg x = some u ∧ RelV v u) (hd : (x == ("__debug__" : Str)) = false := by decide) : PE X (.Name x pos) (tC v) :=
  let ⟨_, a, b⟩ := h
  pe_glob hg a b hd
theorem pe_own {k : Nat} {x : Str} {ps : List Str} {sp : Sp} {e : Expr} {es : List Expr} {t : TA} {p pos : Pos} (h : Has X.prog X.w X.K X.mg X.base k x ps sp) (hr : Room k X.A) (hg : Gl X x) (ha : PA X (e :: es) t)
    (hst : starEach (e :: es) X.env = (false, eval e X.env) :: starEach es X.env := by rfl) (hpl : (backTo pos (starEach es X.env)).any (·.1) = false := by rfl) (hdb : (x == ("__debug__" : Str)) = false := by decide) :
    PE X (.Call (.Name x p) (e :: es) [] pos) (tCall sp [] E0 t) := by
  obtain ⟨f, fd, g, F, kp, b⟩ := h
  exact pe_call F hr hg g kp b .nil pass0 ha (hdb := hdb) (he := hst) (hpl := hpl)
end
/-- tuples that stand at addresses -/
def Held (H : Hp) : List Addr → List (List V) → Prop
  | [], [] => True
  | a :: as, x :: xs => H a = some (.tup x) ∧ Held H as xs
  | _, _ => False
theorem Held.ex {H H' : Hp} (e : Ex H H') : ∀ {as : List Addr} {xs : List (List V)}, Held H as xs → Held H' as xs
  | [], [], _ => trivial
  | a :: _, _ :: _, h => ⟨e a _ h.1, Held.ex e h.2⟩
  | [], _ :: _, h => h.elim
  | _ :: _, [], h => h.elim
theorem Held.put {H : Hp} {l : Addr} {o n : List V} (hl : H l = some (.lst o)) : ∀ {as : List Addr} {xs : List (List V)}, Held H as xs → Held (upd H l (.lst n)) as xs
  | [], [], _ => trivial
  | a :: _, _ :: _, h => ⟨by
      have h1 := h.1
      rw [upd_ne (fun z => by
        rw [z, hl] at h1
        cases h1)]
      exact h1, Held.put hl h.2⟩
  | [], _ :: _, h => h.elim
  | _ :: _, [], h => h.elim
theorem Held.snoc {H : Hp} {a : Addr} {x : List V} (ha : H a = some (.tup x)) : ∀ {as : List Addr} {xs : List (List V)}, Held H as xs → Held H (as ++ [a]) (xs ++ [x])
  | [], [], _ => ⟨ha, trivial⟩
  | _ :: _, _ :: _, h => ⟨h.1, Held.snoc ha h.2⟩
  | [], _ :: _, h => h.elim
  | _ :: _, [], h => h.elim
theorem Held.len {H : Hp} : ∀ {as : List Addr} {xs : List (List V)}, Held H as xs → as.length = xs.length
  | [], [], _ => rfl
  | _ :: _, _ :: _, h => congrArg (· + 1) (Held.len h.2)
  | [], _ :: _, h => h.elim
  | _ :: _, [], h => h.elim
theorem Held.get {H : Hp} : ∀ {as : List Addr} {xs : List (List V)} {i : Nat} {v : V}, Held H as xs → (as.map V.ref)[i]? = some v → ∃ a x, v = .ref a ∧ xs[i]? = some x ∧ H a = some (.tup x)
  | [], [], _, _, _, h => by simp at h
  | a :: _, x :: _, 0, _, hd, h => ⟨a, x, (Option.some.inj h).symm, rfl, hd.1⟩
  | _ :: as, _ :: xs, i + 1, _, hd, h => Held.get (as := as) (xs := xs) (i := i) hd.2 h
  | [], _ :: _, _, _, h, _ => h.elim
  | _ :: _, [], _, _, h, _ => h.elim
/-- a new list of new tuples, over the heap H0 -/
def Grown (H0 H : Hp) (p : Addr) (xs : List (List V)) : Prop := H0 p = none ∧ Ex H0 H ∧ ∃ as : List Addr, H p = some (.lst (as.map V.ref)) ∧ Held H as xs
theorem Grown.ex {H0 H H' : Hp} {p : Addr} {xs : List (List V)} (g : Grown H0 H p xs) (e : Ex H H') : Grown H0 H' p xs :=
  let ⟨a, b, as, c, d⟩ := g
  ⟨a, b.trans e, as, e _ _ c, d.ex e⟩
theorem Grown.start {H0 H : Hp} {p : Addr} (h : H0 p = none) (e : Ex H0 H) (hp : H p = some (.lst [])) : Grown H0 H p [] := ⟨h, e, [], hp, trivial⟩
theorem Grown.is {H0 H : Hp} {p : Addr} {xs ys : List (List V)} (g : Grown H0 H p xs) (e : xs = ys) : Grown H0 H p ys := e ▸ g
def RetH (xs : List (List V)) (H : Hp) (Q : VK) : Prop := ∀ p H2, Grown H H2 p xs → Q (.ref p) H2
section
variable {K : PySem.W.Frag} {σ : L2.St} {H H0 : Hp} {ta te : TE} {D : Ends} {tz : TS} {v : V}
theorem s_push {p : Addr} {xs : List (List V)} {x : List V} (g : Grown H0 H p xs) (ha : Ev ta σ H (.ref p)) (h : EvU te σ H x) (hz : xs.length < 100000) (k : ∀ H1, Grown H0 H1 p (xs ++ [x]) → D.nx σ H1) :
    tDrop (tBM K "list" rAppend ta (tCons te tNil)) D σ H := by
  obtain ⟨g1, g2, as, g3, g4⟩ := g
  refine s_appU g3 ha h (by rw [List.length_map, g4.len]; exact hz) fun q H1 hq e1 h1 => k _ ⟨g1, Ex.mut (g2.trans e1) g1, as ++ [q], ?_, ?_⟩
  · rw [upd_same, List.map_append]
    rfl
  · exact ((g4.ex e1).snoc h1).put (e1 _ _ g3)
theorem q_push {p : Addr} {xs : List (List V)} {x : List V} (g : Grown H0 H p xs) (ha : Ev ta σ H (.ref p)) (h : EvU te σ H x) (hz : xs.length < 100000) (k : ∀ H1, Grown H0 H1 p (xs ++ [x]) → tz D σ H1) :
    tSeq (tDrop (tBM K "list" rAppend ta (tCons te tNil))) tz D σ H := s_push (D := { D with nx := tz D }) g ha h hz k
theorem s_extT {l b : Addr} {us ws : List V} (hl : H l = some (.lst us)) (ha : Ev ta σ H (.ref l)) (h : Ev te σ H (.ref b)) (hb : SqT K H b ws) (hz : us.length + ws.length ≤ 100000) (k : ∀ H1, Ex H H1 → D.nx σ (upd H1 l (.lst (us ++ ws)))) :
    tDrop (tBM K "list" (rExtT K) ta (tCons te tNil)) D σ H := ha H (Ex.refl H) _ fun H1 e1 =>
  ⟨Or.inl ⟨rfl, us, sq_of (e1 l _ hl)⟩, h H1 e1 _ fun H2 e2 => ⟨l, b, us, ws, rfl, rfl, e2 l _ (e1 l _ hl), ex_t (e1.trans e2) hb, sz_of hz, k H2 (e1.trans e2)⟩⟩
/-- x = f(..) by f's promise -/
theorem q_asgC {sp : Sp} {E : XK} {t : TA} {i : Nat} {vs : List V} (h : EvA t σ H vs) (hs : ∀ H1, Ex H H1 → sp (vs ++ []) H1 (fun v H2 => tz D (σ.set i (some v)) H2) E) :
    tSeq (tAsg (tCall sp [] E t) (gName i)) tz D σ H := h H (Ex.refl H) _ hs
end
end Tri

/-! ### C. Rooms: the specification's list, row by row -/
namespace Tri
theorem flat_succ {α : Type} (f : Nat → List α) (n : Nat) : (List.range (n + 1)).flatMap f = (List.range n).flatMap f ++ f n := by
  rw [List.range_succ, List.flatMap_append, List.flatMap_cons, List.flatMap_nil, List.append_nil]
theorem flat_len {α : Type} (f : Nat → List α) (c : Nat) (h : ∀ i, (f i).length ≤ c) : ∀ n, ((List.range n).flatMap f).length ≤ c * n
  | 0 => Nat.zero_le _
  | n + 1 => by
    have a := flat_len f c h n
    have b := h n
    rw [flat_succ, List.length_append, Nat.mul_succ]
    omega
def cell (m j i : Nat) : List Kzs2.Room := if i + j + 2 ≤ m then [⟨i, j, true⟩, ⟨i, j, false⟩] else [⟨i, j, true⟩]
def rowTo (m j n : Nat) : List Kzs2.Room := (List.range n).flatMap (cell m j)
def upTo (m n : Nat) : List Kzs2.Room := (List.range n).flatMap fun j => rowTo m j (m - j)
theorem rooms_upTo (m : Nat) : Kzs2.rooms m = upTo m m := rfl
theorem cell_len (m j i : Nat) : (cell m j i).length ≤ 2 := by
  unfold cell
  split <;> simp
theorem rowTo_len (m j n : Nat) : (rowTo m j n).length ≤ 2 * n := flat_len _ 2 (cell_len m j) n
theorem upTo_len (m n : Nat) : (upTo m n).length ≤ (2 * m) * n := flat_len _ (2 * m) (fun j => Nat.le_trans (rowTo_len m j _) (by omega)) n
theorem rowTo_succ (m j n : Nat) : rowTo m j (n + 1) = rowTo m j n ++ cell m j n := flat_succ _ n
theorem upTo_succ (m n : Nat) : upTo m (n + 1) = upTo m n ++ rowTo m n (m - n) := flat_succ _ n
theorem f_rooms_no (m : Int) (h : ¬ (1 ≤ m ∧ m ≤ 9)) : PyKzs2.rooms m = [-22] := by
  show (Kzs2.answer (.rooms m.toNat)).value :: (Kzs2.answer (.rooms m.toNat)).nums = [-22]
  have e : Kzs2.answer (.rooms m.toNat) = Kzs1.say (-22) := if_pos (by unfold Kzs2.most; omega)
  rw [e]
  rfl
theorem f_rooms (n : Nat) (h : 1 ≤ n ∧ n ≤ 9) : PyKzs2.rooms (n : Int) = ((Kzs2.rooms n).length : Int) :: (Kzs2.rooms n).flatMap fun r => [(r.i : Int), (r.j : Int), if r.u then 1 else 0] := by
  show (Kzs2.answer (.rooms n)).value :: (Kzs2.answer (.rooms n)).nums = _
  have e : Kzs2.answer (.rooms n) = ⟨((Kzs2.rooms n).length : Nat), (Kzs2.rooms n).flatMap fun r => [(r.i : Int), (r.j : Int), if r.u then 1 else 0]⟩ := if_neg (by unfold Kzs2.most; omega)
  rw [e]
end Tri

/-! ### E. A loop over zip of two lists, into two names -/
namespace Tri
open PySem PySem.Spec PyProof.Rows L2 Evl
section
variable {K : PySem.W.Frag} {σ : L2.St} {H : Hp} {D : Ends} {tu tz : TS}
theorem q_forZ {ta : TA} {a b : Addr} {xs ys : List V} {p q : Nat} (h : EvA ta σ H [.ref a, .ref b]) (hx : SqL K H a xs) (hy : SqL K H b ys) (hl : xs.length = ys.length) (Pv : Nat → L2.St → Hp → Prop) (h0 : ∀ H1, Ex H H1 → Pv 0 σ H1)
    (hq : ∀ i σ' H', Pv i σ' H' → SqL K H' a xs ∧ SqL K H' b ys)
    (hs : ∀ i x y σ' H', xs[i]? = some x → ys[i]? = some y → Pv i σ' H' → ∀ H2, Ex H' H2 → tu { D with nx := Pv (i + 1), ct := Pv (i + 1), bk := tz D } ((σ'.set p (some x)).set q (some y)) H2)
    (hd : ∀ σ' H', Pv xs.length σ' H' → tz D σ' H') : tSeq (tFor (iZip K ta) (gTup K 2 (gCons (gName p) (gCons (gName q) gNil))) tu) tz D σ H :=
  h H (Ex.refl H) _ fun H1 e => ⟨a, b, xs, ys, rfl, ex_l e hx, ex_l e hy, RZ.for_zipL hl Pv (h0 H1 e) hq
    (fun i x y T σ' H' hxi hyi pv hT => ⟨T, [x, y], rfl, st_of upd_same, rfl, x, [y], rfl, y, [], rfl, rfl, hs i x y σ' H' hxi hyi pv _ (Ex.new hT)⟩) hd⟩
end
end Tri

/-! ### F. Places and fair colours -/
namespace Tri
def prow (j n : Nat) : List Kzs2.Place := (List.range n).map fun i => ⟨i, j⟩
def pup (m n : Nat) : List Kzs2.Place := (List.range n).flatMap fun j => prow j (m + 1 - j)
theorem places_pup (m : Nat) : Kzs2.places m = pup m (m + 1) := rfl
theorem prow_succ (j n : Nat) : prow j (n + 1) = prow j n ++ [⟨n, j⟩] := by
  unfold prow
  rw [List.range_succ, List.map_append]
  rfl
theorem pup_succ (m n : Nat) : pup m (n + 1) = pup m n ++ prow n (m + 1 - n) := flat_succ _ n
theorem prow_len (j n : Nat) : (prow j n).length = n := by
  unfold prow
  rw [List.length_map, List.length_range]
theorem pup_len (m n : Nat) : (pup m n).length ≤ (m + 1) * n := flat_len _ (m + 1) (fun j => by rw [prow_len]; omega) n
theorem noOf_all : ∀ m : Nat, m < 10 → (Kzs2.places m).map (Kzs2.noOf m) = List.range (Kzs2.places m).length := by decide +kernel
theorem noOf_at {m i : Nat} {p : Kzs2.Place} (hm : m ≤ 9) (h : (Kzs2.places m)[i]? = some p) : Kzs2.noOf m p = i := by
  have e := congrArg (fun l => l[i]?) (noOf_all m (by omega))
  have hi : i < (Kzs2.places m).length := (List.getElem?_eq_some_iff.mp h).1
  simp only [List.getElem?_map, h, List.getElem?_range hi] at e
  exact Option.some.inj e
theorem within_all : ∀ m : Nat, m < 10 → (Kzs2.places m).all (fun p => decide (p.i + p.j ≤ m)) = true := by decide +kernel
theorem within_at {m i : Nat} {p : Kzs2.Place} (hm : m ≤ 9) (h : (Kzs2.places m)[i]? = some p) : p.i + p.j ≤ m :=
  of_decide_eq_true (List.all_eq_true.mp (within_all m (by omega)) p (List.mem_of_getElem? h))
theorem getD_at {l : List Nat} {i x d : Nat} (h : l[i]? = some x) : l.getD i d = x := by
  rw [List.getD_eq_getElem?_getD, h]
  rfl
theorem fair_iff {m : Nat} {c : List Nat} (hm : m ≤ 9) : Kzs2.fair m c = true ↔ c.length = (Kzs2.places m).length ∧ ∀ (i : Nat) (p : Kzs2.Place) (x : Nat), (Kzs2.places m)[i]? = some p → c[i]? = some x → x ≤ 2 ∧ Kzs2.number m p x ≠ 0 := by
  unfold Kzs2.fair
  rw [Bool.and_eq_true, beq_iff_eq, List.all_eq_true]
  refine and_congr_right fun hl => ⟨fun h i p x hp hx => ?_, fun h p hp => ?_⟩
  · have q := h p (List.mem_of_getElem? hp)
    rw [noOf_at hm hp, getD_at hx, getD_at hx, Bool.and_eq_true, decide_eq_true_eq, bne_iff_ne] at q
    exact q
  · obtain ⟨i, hi⟩ := List.mem_iff_getElem?.mp hp
    have hlt : i < c.length := by
      rw [hl]
      exact (List.getElem?_eq_some_iff.mp hi).1
    have hx : c[i]? = some c[i] := List.getElem?_eq_getElem hlt
    have q := h i p _ hi hx
    rw [noOf_at hm hi, getD_at hx, getD_at hx, Bool.and_eq_true, decide_eq_true_eq, bne_iff_ne]
    exact q
theorem f_fair_no (m : Int) (c : List Int) (h : ¬ (1 ≤ m ∧ m ≤ 9)) : PyKzs2.fair m c = [-22] := by
  show (Kzs2.answer (.fair m.toNat (Kzs2Neutral.natsOf c))).value :: (Kzs2.answer (.fair m.toNat (Kzs2Neutral.natsOf c))).nums = [-22]
  have e : Kzs2.answer (.fair m.toNat (Kzs2Neutral.natsOf c)) = Kzs1.say (-22) := if_pos (by unfold Kzs2.most; omega)
  rw [e]
  rfl
theorem f_fair (n : Nat) (c : List Int) (h : 1 ≤ n ∧ n ≤ 9) : PyKzs2.fair (n : Int) c = [if Kzs2.fair n (c.map Int.toNat) = true then 1 else 0] := by
  show (Kzs2.answer (.fair n (Kzs2Neutral.natsOf c))).value :: (Kzs2.answer (.fair n (Kzs2Neutral.natsOf c))).nums = _
  have e : Kzs2.answer (.fair n (Kzs2Neutral.natsOf c)) = Kzs1.say (if Kzs2.fair n (Kzs2Neutral.natsOf c) then 1 else 0) := if_neg (by unfold Kzs2.most; omega)
  rw [e]
  rfl
end Tri

/-! ### G. Loops over what a def gives back; lists of new tuples; dicts by pairs -/
namespace Tri
open PySem PySem.Spec PyProof.Rows L2 Evl
abbrev rModI : R2 := rI (fun _ j => 0 < j) fun i j => .int (i % j)
/-- a walk that is there already -/
def iJ (J : It) : TI := fun _ H R => R J H
section
variable {K : PySem.W.Frag} {σ : L2.St} {H : Hp} {D : Ends} {tu tz : TS} {g : TG} {te ta tb td ty tv : TE} {v x y z : V}
theorem enum_go {a : Addr} {xs : List V} {p q : Nat} (Pv : Nat → L2.St → Hp → Prop) (h0 : Pv 0 σ H) (hq : ∀ i σ' H', i ≤ xs.length → Pv i σ' H' → SqL K H' a xs)
    (hs : ∀ (i : Nat) x σ' H', xs[i]? = some x → Pv i σ' H' → ∀ H2, Ex H' H2 → tu { D with nx := Pv (i + 1), ct := Pv (i + 1), bk := D.nx } ((σ'.set p (some (.int (i : Nat)))).set q (some x)) H2)
    (hd : ∀ σ' H', Pv xs.length σ' H' → D.nx σ' H') : tFor (iJ (Ite K a)) (gTup K 2 (gCons (gName p) (gCons (gName q) gNil))) tu D σ H :=
  for_it (walk_enum (xs := xs)) Pv h0 hq (fun i x σ' H' H2 hi pv y => by
    obtain ⟨T, x1, x2, rfl, hT, rfl, e1, e2⟩ := y
    cases (Option.some.inj e1)
    exact ⟨T, [_, x2], rfl, st_of upd_same, rfl, _, [x2], rfl, x2, [], rfl, rfl, hs i x2 σ' H' e2 pv _ (Ex.new hT)⟩) hd
def EnumK (K : PySem.W.Frag) (g : TG) (tu : TS) (D : Ends) (σ : L2.St) : VK := fun v H2 => ∃ a xs, [v] = [V.ref a] ∧ SqL K H2 a xs ∧ tFor (iJ (Ite K a)) g tu D σ H2
theorem s_forEC {sp : Sp} {E : XK} {t : TA} {vs : List V} (h : EvA t σ H vs) (hs : ∀ H1, Ex H H1 → sp (vs ++ []) H1 (EnumK K g tu D σ) E) : tFor (iEnum K (tCons (tCall sp [] E t) tNil)) g tu D σ H := h H (Ex.refl H) _ hs
theorem q_forEC {sp : Sp} {E : XK} {t : TA} {vs : List V} (h : EvA t σ H vs) (hs : ∀ H1, Ex H H1 → sp (vs ++ []) H1 (EnumK K g tu { D with nx := tz D } σ) E) : tSeq (tFor (iEnum K (tCons (tCall sp [] E t) tNil)) g tu) tz D σ H := s_forEC (D := { D with nx := tz D }) h hs
theorem q_forE {t : TA} {a : Addr} {xs : List V} {p q : Nat} (h : EvA t σ H [.ref a]) (hx : SqL K H a xs) (Pv : Nat → L2.St → Hp → Prop) (h0 : ∀ H1, Ex H H1 → Pv 0 σ H1) (hq : ∀ i σ' H', i ≤ xs.length → Pv i σ' H' → SqL K H' a xs)
    (hs : ∀ (i : Nat) x σ' H', xs[i]? = some x → Pv i σ' H' → ∀ H2, Ex H' H2 → tu { D with nx := Pv (i + 1), ct := Pv (i + 1), bk := tz D } ((σ'.set p (some (.int (i : Nat)))).set q (some x)) H2)
    (hd : ∀ σ' H', Pv xs.length σ' H' → tz D σ' H') : tSeq (tFor (iEnum K t) (gTup K 2 (gCons (gName p) (gCons (gName q) gNil))) tu) tz D σ H :=
  h H (Ex.refl H) _ fun H1 e => ⟨a, xs, rfl, ex_l e hx, enum_go (D := { D with nx := tz D }) Pv (h0 H1 e) hq hs hd⟩
theorem list_go {a : Addr} {xs : List V} (Pv : Nat → L2.St → Hp → Prop) (h0 : Pv 0 σ H) (hq : ∀ i σ' H', i ≤ xs.length → Pv i σ' H' → SqL K H' a xs)
    (hs : ∀ i x σ' H', xs[i]? = some x → Pv i σ' H' → g x σ' H' fun σ2 H2 => tu { D with nx := Pv (i + 1), ct := Pv (i + 1), bk := D.nx } σ2 H2)
    (hd : ∀ σ' H', Pv xs.length σ' H' → D.nx σ' H') : tFor (iJ (Itl K a)) g tu D σ H := for_list Pv h0 hq hs hd
def ListK (K : PySem.W.Frag) (g : TG) (tu : TS) (D : Ends) (σ : L2.St) : VK := fun v H2 => ∃ a, v = V.ref a ∧ (∃ xs, SqL K H2 a xs) ∧ tFor (iJ (Itl K a)) g tu D σ H2
theorem q_forLC {sp : Sp} {E : XK} {t : TA} {vs : List V} (h : EvA t σ H vs) (hs : ∀ H1, Ex H H1 → sp (vs ++ []) H1 (ListK K g tu { D with nx := tz D } σ) E) : tSeq (tFor (iList K (tCall sp [] E t)) g tu) tz D σ H := h H (Ex.refl H) _ hs
theorem zip_go {a b : Addr} {xs ys : List V} {p q : Nat} (hl : xs.length = ys.length) (Pv : Nat → L2.St → Hp → Prop) (h0 : Pv 0 σ H)
    (hq : ∀ i σ' H', Pv i σ' H' → SqL K H' a xs ∧ SqL K H' b ys)
    (hs : ∀ i x y σ' H', xs[i]? = some x → ys[i]? = some y → Pv i σ' H' → ∀ H2, Ex H' H2 → tu { D with nx := Pv (i + 1), ct := Pv (i + 1), bk := D.nx } ((σ'.set p (some x)).set q (some y)) H2)
    (hd : ∀ σ' H', Pv xs.length σ' H' → D.nx σ' H') : tFor (iJ (Itz K a b)) (gTup K 2 (gCons (gName p) (gCons (gName q) gNil))) tu D σ H :=
  RZ.for_zipL hl Pv h0 hq (fun i x y T σ' H' hxi hyi pv hT => ⟨T, [x, y], rfl, st_of upd_same, rfl, x, [y], rfl, y, [], rfl, rfl, hs i x y σ' H' hxi hyi pv _ (Ex.new hT)⟩) hd
def ZipK (K : PySem.W.Frag) (tr : TA) (g : TG) (tu : TS) (D : Ends) (σ : L2.St) : VK := fun v H2 => tr σ H2 fun ws H3 => ∃ a b xs ys, v :: ws = [V.ref a, V.ref b] ∧ SqL K H3 a xs ∧ SqL K H3 b ys ∧ tFor (iJ (Itz K a b)) g tu D σ H3
theorem q_forZC {sp : Sp} {E : XK} {t tr : TA} {vs : List V} (h : EvA t σ H vs) (hs : ∀ H1, Ex H H1 → sp (vs ++ []) H1 (ZipK K tr g tu { D with nx := tz D } σ) E) : tSeq (tFor (iZip K (tCons (tCall sp [] E t) tr)) g tu) tz D σ H := h H (Ex.refl H) _ hs
/-- arguments that are new tuples -/
def EvH (t : TA) (σ : L2.St) (H : Hp) (rows : List (List V)) : Prop := ∀ H1, Ex H H1 → ∀ Q : List V → Hp → Prop, (∀ as H2, Ex H1 H2 → Held H2 as rows → Q (as.map V.ref) H2) → t σ H1 Q
theorem eh_nil : EvH tNil σ H [] := fun H1 _ _ q => q [] H1 (Ex.refl H1) trivial
theorem eh_cons {tr : TA} {xs : List V} {rows : List (List V)} (h : EvU te σ H xs) (hr : EvH tr σ H rows) : EvH (tCons te tr) σ H (xs :: rows) := fun H1 e _ q =>
  h H1 e _ fun p _ _ e2 h2 => hr _ (e.trans e2) _ fun as H3 e3 hd => q (p :: as) H3 (e2.trans e3) ⟨e3 _ _ h2, hd⟩
theorem s_retH {t : TA} {rows : List (List V)} (h : EvH t σ H rows) (hl : rows.length ≤ 100000) (k : RetH rows H D.rt) : tRet (tLst t) D σ H := h H (Ex.refl H) _ fun as H1 e hd =>
  ⟨by rw [List.length_map, hd.len]; exact sz_of hl, fun l hn => k l _ ⟨fresh_back e hn, e.trans (Ex.new hn), as, upd_same, hd.ex (Ex.new hn)⟩⟩
theorem ev_dgetT {a b : Addr} {kvs : List (List L2.Key × V)} {ks : List L2.Key} (h : Ev ta σ H (.ref a)) (hk : Ev tb σ H (.ref b)) (hd : H a = some (.dT kvs)) (hb : H b = some (.tup (ks.map kV))) (hv : valV kvs ks = some v) : Ev (tDGet ta tb) σ H v := fun H1 e Q q =>
  h H1 e _ fun H2 e2 => hk H2 (e.trans e2) _ fun H3 e3 => ⟨a, v, rfl, hv ▸ DGet.t (((e.trans e2).trans e3) _ _ hd) (((e.trans e2).trans e3) _ _ hb), q H3 (e2.trans e3)⟩
theorem s_dputT {a : Addr} {kvs : List (List L2.Key × V)} {ks : List L2.Key} (hd : H a = some (.dT kvs)) (hl : kvs.length < 100000) (ha : Ev td σ H (.ref a)) (hk : EvU ty σ H (ks.map kV)) (hv : Ev tv σ H v) (k : ∀ H1, Ex H H1 → D.nx σ (upd H1 a (.dT (putK kvs ks v)))) : sDPut td ty tv D σ H :=
  hv H (Ex.refl H) _ fun H1 e1 => ha H1 e1 _ fun H2 e2 => hk H2 (e1.trans e2) _ fun p H3 _ e3 h3 => ⟨a, _, rfl, DPut.t (((e1.trans e2).trans e3) _ _ hd) h3 (sz_lt hl), k H3 ((e1.trans e2).trans e3)⟩
theorem s_extL {l : Addr} {us ws : List V} (hl : H l = some (.lst us)) (ha : Ev ta σ H (.ref l)) (h : EvL te σ H ws) (hz : us.length + ws.length ≤ 100000) (k : ∀ H1, Ex H H1 → D.nx σ (upd H1 l (.lst (us ++ ws)))) :
    tDrop (tBM K "list" rExtend ta (tCons te tNil)) D σ H := ha H (Ex.refl H) _ fun H1 e1 =>
  ⟨Or.inl ⟨rfl, us, sq_of (e1 l _ hl)⟩, h H1 e1 _ fun b H2 _ e2 h2 => ⟨l, b, us, ws, rfl, rfl, e2 l _ (e1 l _ hl), h2, sz_of hz, k H2 (e1.trans e2)⟩⟩
theorem q_extL {l : Addr} {us ws : List V} (hl : H l = some (.lst us)) (ha : Ev ta σ H (.ref l)) (h : EvL te σ H ws) (hz : us.length + ws.length ≤ 100000) (k : ∀ H1, Ex H H1 → tz D σ (upd H1 l (.lst (us ++ ws)))) :
    tSeq (tDrop (tBM K "list" rExtend ta (tCons te tNil))) tz D σ H := s_extL (D := { D with nx := tz D }) hl ha h hz k
theorem el_cat {b : Addr} {xs ys : List V} (ha : EvL ta σ H xs) (hb : Ev tb σ H (.ref b)) (hy : H b = some (.lst ys)) (hz : xs.length + ys.length ≤ 100000) : EvL (tOp rCat ta tb) σ H (xs ++ ys) := fun H1 e Q q =>
  ha H1 e _ fun a H2 hn e2 h2 => hb H2 (e.trans e2) _ fun H3 e3 => ⟨a, b, xs, ys, rfl, rfl, e3 _ _ h2, ((e.trans e2).trans e3) _ _ hy, sz_of hz, fun p hp => q p _ (fresh_back (e2.trans e3) hp) ((e2.trans e3).trans (Ex.new hp)) upd_same⟩
/-- [e for b in f(..)], f giving a new list of new tuples -/
theorem el_lcC {sp : Sp} {E : XK} {t : TA} {vs : List V} {rows : List (List V)} {j : Nat} {ws : List Nat} (v : Nat → V) (h : EvA t σ H vs) (hs : ∀ H1, Ex H H1 → ∀ Q E, RetH rows H1 Q → sp (vs ++ []) H1 Q E) (hz : rows.length ≤ 40000)
    (hw : ∀ x, wipe ((wipe σ ws).set j (some x)) ws = wipe σ ws) (he : ∀ (i : Nat) (b : Addr) (row : List V) H1, Ex H H1 → rows[i]? = some row → H1 b = some (.tup row) → Ev te ((wipe σ ws).set j (some (.ref b))) H1 (v i)) :
    EvL (tLc (iList K (tCall sp [] E t)) (gName j) tYes te ws) σ H (given rows.length (fun _ => true) v) := fun H0 e Q q => h H0 e _ fun H1 e1 => hs H1 (e.trans e1) _ _ fun a H2 g => by
  obtain ⟨ha, e2, as, hl, hd⟩ := g
  refine ⟨a, rfl, ⟨as.map V.ref, sq_of hl⟩, fun Dl hD => ?_⟩
  have hE : Ex H H2 := (e.trans e1).trans e2
  refine lc_list (xs := as.map V.ref) (Cw H2 (fun _ => true) v Dl) ⟨hD, Ex.new hD, upd_same⟩ (fun i H' _ p => sq_of (p.2.1 a _ hl)) (fun i x H' hi p => ⟨hw x, ?_⟩)
    (fun H' p => q Dl H' (fresh_back (e1.trans e2) p.1) ((e1.trans e2).trans p.2.1) (by
      have := p.2.2
      rw [List.length_map, hd.len] at this
      exact this))
  have hlt := (List.getElem?_eq_some_iff.mp hi).1
  rw [List.length_map, hd.len] at hlt
  obtain ⟨b, row, rfl, hr, hb⟩ := hd.get hi
  exact cw_turn p (by omega) (fun H3 _ _ q => q H3 (Ex.refl H3)) fun _ => he i b row H2 hE hr hb
theorem q_asgDT {i : Nat} (k : ∀ p, H p = none → tz D (σ.set i (some (.ref p))) (upd H p (.dT []))) : tSeq (tAsg tDNewT (gName i)) tz D σ H := k
/-- x = f([..]) -/
theorem q_asgCL {sp : Sp} {E : XK} {i : Nat} {xs : List V} (h : EvL te σ H xs) (hs : ∀ p H1, Ex H H1 → H1 p = some (.lst xs) → sp [.ref p] H1 (fun v H2 => tz D (σ.set i (some v)) H2) E) :
    tSeq (tAsg (tCall sp [] E (tCons te tNil)) (gName i)) tz D σ H := h H (Ex.refl H) _ fun p H1 _ e h1 => hs p H1 e h1
end
theorem RetH.go {rows : List (List V)} {H H' : Hp} {Q : VK} (k : RetH rows H Q) (e : Ex H H') : RetH rows H' Q := fun p H2 g =>
  let ⟨a, b, as, c, d⟩ := g
  k p H2 ⟨fresh_back e a, e.trans b, as, c, d⟩
theorem RetH.is {rows rows' : List (List V)} {H : Hp} {Q : VK} (k : RetH rows H Q) (e : rows = rows') : RetH rows' H Q := e ▸ k
end Tri

/-! ### N. A dict whose keys are pairs of pairs of whole numbers -/
namespace Tri
open PySem PySem.Spec PyProof.Rows L2 Evl
/-- from a place to a place -/
abbrev Sd := (Int × Int) × (Int × Int)
def keyN (s : Sd) : NestedKey := .tup [.tup [.num s.1.1, .num s.1.2], .tup [.num s.2.1, .num s.2.2]]
theorem keyN_inj {s t : Sd} (h : keyN s = keyN t) : s = t := by
  obtain ⟨⟨a, b⟩, c, d⟩ := s
  obtain ⟨⟨a', b'⟩, c', d'⟩ := t
  unfold keyN at h
  simp only [NestedKey.tup.injEq, List.cons.injEq, NestedKey.num.injEq, and_true] at h
  obtain ⟨⟨h1, h2⟩, h3, h4⟩ := h
  rw [h1, h2, h3, h4]
def HP (H : Hp) (a : Addr) (p : Int × Int) : Prop := H a = some (.tup [.int p.1, .int p.2])
def HS (H : Hp) (b : Addr) (s : Sd) : Prop := ∃ q r, H b = some (.tup [.ref q, .ref r]) ∧ HP H q s.1 ∧ HP H r s.2
/-- the tuples of one heap stand in the other -/
def Tx (H H' : Hp) : Prop := ∀ a xs, H a = some (.tup xs) → H' a = some (.tup xs)
theorem Tx.of {H H' : Hp} (e : Ex H H') : Tx H H' := fun a _ h => e a _ h
theorem Tx.refl (H : Hp) : Tx H H := fun _ _ h => h
theorem Tx.trans {H H1 H2 : Hp} (a : Tx H H1) (b : Tx H1 H2) : Tx H H2 := fun x _ h => b x _ (a x _ h)
theorem Tx.mut {H : Hp} {p : Addr} {o n : HO} (h : H p = some o) (ho : ∀ xs, o ≠ .tup xs) : Tx H (upd H p n) := fun a xs e => by
  rw [upd_ne (fun z => by
    rw [z, h] at e
    exact ho xs (Option.some.inj e))]
  exact e
theorem Held.tx {H H' : Hp} (e : Tx H H') : ∀ {as : List Addr} {xs : List (List V)}, Held H as xs → Held H' as xs
  | [], [], _ => trivial
  | a :: _, _ :: _, h => ⟨e a _ h.1, Held.tx e h.2⟩
  | [], _ :: _, h => h.elim
  | _ :: _, [], h => h.elim
theorem HS.tx {H H' : Hp} {b : Addr} {s : Sd} (e : Tx H H') (h : HS H b s) : HS H' b s :=
  let ⟨q, r, h1, h2, h3⟩ := h
  ⟨q, r, e _ _ h1, e _ _ h2, e _ _ h3⟩
abbrev KN : List (Sd × V) → List (NestedKey × Addr × Value) → Prop := Paired fun p q => q.1 = keyN p.1 ∧ RelV p.2 q.2.2
def DN (P : Program) (w : World) (a : Addr) (as : List Addr) (kvs : List (Sd × V)) : HO := .ext fun h => kvs.length ≤ sizeLine ∧ (a == sysModules) = false ∧ ∃ xs : List (NestedKey × Addr × Value), xs.map (·.2.1) = as ∧ KN kvs xs ∧
  ∃ o es ep, h.get? a = some o ∧ o.ExactDict ∧ o.data = .dict es ep ∧ es.toList = xs.map (entryOfKey (nestedKind P w)) ∧ (xs.map (·.1)).Nodup
/-- at a stands a dict with such keys -/
def HasN (P : Program) (w : World) (H : Hp) (a : Addr) (kvs : List (Sd × V)) : Prop := ∃ as, H a = some (DN P w a as kvs) ∧ Paired (fun b (kv : Sd × V) => HS H b kv.1) as kvs
theorem HasN.ex {P : Program} {w : World} {H H' : Hp} {a : Addr} {kvs : List (Sd × V)} (e : Ex H H') (h : HasN P w H a kvs) : HasN P w H' a kvs :=
  let ⟨as, h1, h2⟩ := h
  ⟨as, e _ _ h1, Paired.mapP h2 fun _ _ z => z.tx (.of e)⟩
theorem dn_not {P : Program} {w : World} {a : Addr} {as : List Addr} {kvs : List (Sd × V)} (xs : List V) : DN P w a as kvs ≠ .tup xs := fun z => by
  have zz : HO.ext _ = HO.tup xs := z
  exact nomatch zz
theorem KN.val {kvs : List (Sd × V)} {xs : List (NestedKey × Addr × Value)} (r : KN kvs xs) (k : Sd) : RelO (valV kvs k) ((atKey xs (keyN k)).map (·.2)) := by
  induction r with
  | nil => exact True.intro
  | @cons p q ps qs h t ih =>
    obtain ⟨h1, h2⟩ := h
    by_cases e : p.1 = k
    · have e' : q.1 = keyN k := by rw [h1, e]
      have b : atKey (q :: qs) (keyN k) = some q.2 := by simp [atKey, List.find?_cons, e']
      rw [valV_pos e, b]; exact h2
    · have e' : ¬ q.1 = keyN k := fun z => e (keyN_inj (h1.symm.trans z))
      have b : atKey (q :: qs) (keyN k) = atKey qs (keyN k) := by simp [atKey, List.find?_cons, e']
      rw [valV_neg e, b]; exact ih
theorem KN.repl {kvs : List (Sd × V)} {xs : List (NestedKey × Addr × Value)} (r : KN kvs xs) (k : Sd) {y : V} {u : Value} (ry : RelV y u) :
    KN (kvs.map fun kv => if kv.1 = k then (kv.1, y) else kv) (xs.map (putAt (keyN k) u)) := by
  induction r with
  | nil => exact .nil
  | @cons p q ps qs h t ih =>
    simp only [List.map_cons]
    refine .cons ?_ ih
    obtain ⟨h1, h3⟩ := h
    unfold putAt
    by_cases e : p.1 = k
    · rw [if_pos e, if_pos (by rw [h1, e])]; exact ⟨h1, ry⟩
    · rw [if_neg e, if_neg (fun z => e (keyN_inj (h1.symm.trans z)))]; exact ⟨h1, h3⟩
theorem putAt_addr (k : NestedKey) (u : Value) (xs : List (NestedKey × Addr × Value)) : (xs.map (putAt k u)).map (·.2.1) = xs.map (·.2.1) := by
  rw [List.map_map]
  refine List.map_congr_left (fun x _ => ?_)
  show (putAt k u x).2.1 = x.2.1
  unfold putAt
  split <;> rfl
theorem paired_repl {H : Hp} {k : Sd} {y : V} {as : List Addr} {kvs : List (Sd × V)} (h : Paired (fun b (kv : Sd × V) => HS H b kv.1) as kvs) : Paired (fun b (kv : Sd × V) => HS H b kv.1) as (kvs.map fun kv => if kv.1 = k then (kv.1, y) else kv) := by
  induction h with
  | nil => exact .nil
  | @cons p q ps qs h t ih =>
    rw [List.map_cons]
    refine .cons ?_ ih
    by_cases e : q.1 = k
    · rw [if_pos e]; exact h
    · rw [if_neg e]; exact h
/-- what stands behind a store -/
theorem KN.put {H : Hp} {kvs : List (Sd × V)} {xs : List (NestedKey × Addr × Value)} (r : KN kvs xs) (hp : Paired (fun b (kv : Sd × V) => HS H b kv.1) (xs.map (·.2.1)) kvs) (k : Sd) {b : Addr} {y : V} {u : Value} (hb : HS H b k) (ry : RelV y u) :
    KN (putK kvs k y) (storedH xs (keyN k) b u) ∧ Paired (fun b (kv : Sd × V) => HS H b kv.1) ((storedH xs (keyN k) b u).map (·.2.1)) (putK kvs k y) := by
  have e : (kvs.any fun kv => decide (kv.1 = k)) = (atKey xs (keyN k)).isSome := by
    rw [valV_any k kvs, (KN.val r k).isSome_eq, Option.isSome_map]
  unfold putK storedH
  rw [e]
  by_cases q : (atKey xs (keyN k)).isSome = true
  · rw [if_pos q, if_pos q, putAt_addr]
    exact ⟨r.repl k ry, paired_repl hp⟩
  · rw [if_neg q, if_neg q, List.map_append]
    exact ⟨Paired.snoc r ⟨rfl, ry⟩, Paired.snoc hp hb⟩
section
variable {P : Program} {w : World} {H : Hp} {h : Heap} {a b : Addr}
theorem place_of {p : Int × Int} (ok : HOk P w H h) (e : HP H a p) : NestedIs h (.tup [.num p.1, .num p.2]) (.ref a) := by
  obtain ⟨_, its, r, o, h1, h2, n, h3⟩ := (show ObjOk P w H h a (.tup [.int p.1, .int p.2]) from ok a _ e)
  refine NestedIs.tup h1 h2 h3 ?_
  cases r with
  | cons r1 r2 =>
    cases r2 with
    | cons r2 r3 =>
      cases r3
      obtain ⟨t, rfl⟩ := r1
      obtain ⟨u, rfl⟩ := r2
      exact .cons (.int _ _) (.cons (.int _ _) .nil)
theorem keyN_of {k : Sd} (ok : HOk P w H h) (e : HS H b k) : (nestedKind P w).is h (keyN k) b := by
  obtain ⟨q, r, e1, e2, e3⟩ := e
  obtain ⟨_, its, rv, o, h1, h2, n, h3⟩ := (show ObjOk P w H h b (.tup [.ref q, .ref r]) from ok b _ e1)
  refine ⟨NestedIs.tup h1 h2 h3 ?_, ?_⟩
  · cases rv with
    | cons r1 r2 =>
      cases r2 with
      | cons r2 r3 =>
        cases r3
        cases r1
        cases r2
        exact .cons (place_of ok e2) (.cons (place_of ok e3) .nil)
  · simp [keyN, NestedKey.depth, NestedKey.depthAll]
theorem dn_of {kvs : List (Sd × V)} (ok : HOk P w H h) (e : HasN P w H a kvs) : kvs.length ≤ sizeLine ∧ (a == sysModules) = false ∧ ∃ xs, H a = some (DN P w a (xs.map (·.2.1)) kvs) ∧ KN kvs xs ∧ Paired (fun b (kv : Sd × V) => HS H b kv.1) (xs.map (·.2.1)) kvs ∧ h.DictOfH (nestedKind P w) a xs := by
  obtain ⟨as, e1, e2⟩ := e
  have x : ObjOk P w H h a (DN P w a as kvs) := ok a _ e1
  obtain ⟨⟨z, y, xs, rfl, r, o, es, ep, h1, h2, h3, h4, h5⟩, _⟩ := x
  refine ⟨z, y, xs, e1, r, e2, o, es, ep, h1, h2, h3, h4, ?_, h5⟩
  have all : ∀ {l : List (Sd × V)} {m : List (NestedKey × Addr × Value)}, KN l m → Paired (fun b (kv : Sd × V) => HS H b kv.1) (m.map (·.2.1)) l → ∀ x ∈ m, (nestedKind P w).is h x.1 x.2.1 := by
    intro l m q
    induction q with
    | nil => intro _ x hx; exact nomatch hx
    | @cons p q ps qs hq t ih =>
      intro pr x hx
      rw [List.map_cons] at pr
      cases pr with
      | cons p1 p2 =>
        rcases List.mem_cons.mp hx with e | hx2
        · subst e
          rw [hq.1]
          exact keyN_of ok p1
        · exact ih p2 x hx2
  exact all r e2
theorem dn_ok {H' : Hp} {h' : Heap} {kvs : List (Sd × V)} {xs : List (NestedKey × Addr × Value)} (z : kvs.length ≤ sizeLine) (y : (a == sysModules) = false) (r : KN kvs xs) {o : Obj} {es : Array DictEntry} {ep : Nat} (h1 : h'.get? a = some o) (h2 : o.ExactDict) (h3 : o.data = .dict es ep)
    (h4 : es.toList = xs.map (entryOfKey (nestedKind P w))) (h5 : (xs.map (·.1)).Nodup) : ObjOk P w H' h' a (DN P w a (xs.map (·.2.1)) kvs) :=
  ⟨⟨z, y, xs, rfl, r, o, es, ep, h1, h2, h3, h4, h5⟩, ⟨o, h1⟩, fun g1 g2 f k => by
    obtain ⟨z, y, xs, hx, r, o, es, ep, h1, h2, h3, h4, h5⟩ := f
    exact ⟨z, y, xs, hx, r, o, es, ep, k _ h1, h2, h3, h4, h5⟩⟩
end
section
variable {X : Cx} {pins : List (Addr × Obj)} {σ : L2.St} {H : Hp} {s : Shared} {a b : Addr} {k : Sd} {v : V} {r : Value} {A : Around} {E : Value → Shared → Prop} {kvs : List (Sd × V)}
theorem n_getItem {Q : Value → Shared → Prop} (hu : A.units + 64 < cLine) (I : Inv X pins σ H s) (g : HasN X.prog X.w H a kvs) (eb : HS H b k) (hv : valV kvs k = some v) (h : ∀ w' s', Inv X pins σ H s' → RelV v w' → Q w' s') :
    wpAny (model X.prog X.w) A (getItem (.ref a) (.ref b)) Q E s := by
  obtain ⟨z, hd, xs, _, rel, _, dd⟩ := dn_of I.hok g
  obtain ⟨w', hw, rw'⟩ := RelO.some_of (v := v) (o := (atKey xs (keyN k)).map (·.2)) (by rw [← hv]; exact rel.val k)
  obtain ⟨pe, hp, hp2⟩ := Option.map_eq_some_iff.mp hw
  refine wpAny_getItem_heap (knd := nestedKind X.prog X.w) (by show A.units + 1 + 8 < cLine; omega) (keyN_of I.hok eb) dd hp ?_
  rw [hp2]
  exact h w' _ (I.tok _) rw'
theorem n_setItem {Q : Unit → Shared → Prop} (hu : A.units + 64 < cLine) (I : Inv X pins σ H s) (g : HasN X.prog X.w H a kvs) (hl : kvs.length < sizeLine) (eb : HS H b k) (rv : RelV v r)
    (h : ∀ s' as, Inv X pins σ (upd H a (DN X.prog X.w a as (putK kvs k v))) s' → HasN X.prog X.w (upd H a (DN X.prog X.w a as (putK kvs k v))) a (putK kvs k v) → Q () s') :
    wpAny (model X.prog X.w) A (setItem (.ref a) (.ref b) r) Q E s := by
  obtain ⟨z, hd, xs, e, rel, pr, dd⟩ := dn_of I.hok g
  have hz : xs.length ≤ sizeLine := Paired.length rel ▸ z
  have hl2 : (putK kvs k v).length ≤ sizeLine := Nat.le_trans (length_putK kvs k v) hl
  obtain ⟨n1, n2⟩ := rel.put pr k eb rv
  refine wpAny_setItem_heap (hsz := hz) (knd := nestedKind X.prog X.w) (by show A.units + 1 + 8 < cLine; omega) (keyN_of I.hok eb) dd fun h' dd' hs => h _ ((storedH xs (keyN k) b r).map (·.2.1)) ?_ ⟨_, upd_same, ?_⟩
  · obtain ⟨q, es, ep, hq, h2, h3, h4, _, h5⟩ := dd'
    exact d_write I (by rw [e]; exact True.intro) hs ⟨q, hq⟩ (dn_ok hl2 hd n1 hq h2 h3 h4 h5)
  · exact Paired.mapP n2 fun _ _ z => z.tx (Tx.mut e dn_not)
end
def tNGet (P : Program) (w : World) (td ty : TE) : TE := fun σ H Q => td σ H fun x H1 => ty σ H1 fun y H2 => ∃ a b kvs k v, x = .ref a ∧ y = .ref b ∧ HasN P w H2 a kvs ∧ HS H2 b k ∧ valV kvs k = some v ∧ Q v H2
def sNPut (P : Program) (w : World) (td ty tv : TE) : TS := fun D σ H => tv σ H fun v H1 => td σ H1 fun x H2 => ty σ H2 fun y H3 => ∃ a b kvs k, x = .ref a ∧ y = .ref b ∧ HasN P w H3 a kvs ∧ kvs.length < sizeLine ∧ HS H3 b k ∧
  ∀ as, HasN P w (upd H3 a (DN P w a as (putK kvs k v))) a (putK kvs k v) → D.nx σ (upd H3 a (DN P w a as (putK kvs k v)))
def tNNew (P : Program) (w : World) : TE := fun _ H Q => ∀ p, H p = none → Q (.ref p) (upd H p (DN P w p [] []))
section
variable {X : Cx} {o i value : Expr} {pos pos' : Pos} {td ty tv : TE}
theorem pe_nget (hu : X.A.units + 64 < cLine) (ho : PE X o td) (hi : PE X i ty) (hs : NoSl i) : PE X (.Subscript o i pos) (tNGet X.prog X.w td ty) := by
  refine PE.mk fun pins s σ H Q I h => ?_
  refine subD_of PySem.F.slot_dict_getitem.lookup hs (thn (ho.run pins s σ H _ I h) fun u s1 ⟨x, H1, I1, rx, q1⟩ => thn (hi.run pins s1 σ H1 _ I1 q1) fun iv s2 ⟨y, H2, I2, ry, a, b, kvs, k, v, ex, ey, g, hb, hv, q2⟩ => ?_)
  subst ex ey
  obtain rfl : u = .ref a := rx
  obtain rfl : iv = .ref b := ry
  obtain ⟨_, _, _, _, _, _, dd⟩ := dn_of I2.hok g
  exact ⟨dd.typeIs, n_getItem hu I2 g hb hv fun w' s3 I3 rw' => ⟨v, H2, I3, rw', q2⟩⟩
theorem ps_nput (hu : X.A.units + 64 < cLine) (ho : PE X o td) (hi : PE X i ty) (hv : PE X value tv) (hs : swapsWith value (some (.Subscript o i pos')) pos.line X.env = pure false) :
    PS X (.Assign [.Subscript o i pos'] value pos) (sNPut X.prog X.w td ty tv) := by
  refine PS.mk fun pins s σ H D I h => ?_
  refine wpAny_Assign_Subscript (thn (hv.run pins s σ H _ I h) fun r s1 ⟨v, H1, I1, rv, q1⟩ => thn (ho.run pins s1 σ H1 _ I1 q1) fun u s2 ⟨x, H2, I2, rx, q2⟩ => thn (hi.run pins s2 σ H2 _ I2 q2) fun iv s3 ⟨y, H3, I3, ry, a, b, kvs, k, ex, ey, g, hl, hb, q3⟩ => ?_) hs
  subst ex ey
  obtain rfl : u = .ref a := rx
  obtain rfl : iv = .ref b := ry
  exact n_setItem hu I3 g hl hb rv fun s4 as I4 g4 => ⟨σ, _, I4, q3 as g4⟩
theorem pe_nnew : PE X (.Dict [] [] pos) (tNNew X.prog X.w) := ⟨fun pins s σ H Q I h =>
  wpAny_Dict_empty ⟨.ref s.heap.objs.size, _, I.laid (a := s.heap.objs.size) (o := DN X.prog X.w s.heap.objs.size [] []) (t' := s.toks) (fun _ _ q => Heap.get?_push_of_some _ q) (Nat.le_refl _)
    (dn_ok (xs := []) (Nat.zero_le _) (beq_eq_false_iff_ne.mpr (Ne.symm (Nat.ne_of_lt I.big))) .nil (es := #[]) (ep := 0) (Heap.get?_push_size _ rfl) ⟨rfl, rfl, rfl⟩ rfl rfl List.nodup_nil), rfl, h _ (I.hok.fresh (Nat.le_refl _))⟩⟩
end
end Tri

/-! ### J. Rooms, their corners, the colours there -/
namespace Tri
theorem mem_places {m : Nat} {p : Kzs2.Place} (h : p.i + p.j ≤ m) : p ∈ Kzs2.places m := by
  unfold Kzs2.places
  rw [List.mem_flatMap]
  refine ⟨p.j, List.mem_range.mpr (by omega), ?_⟩
  rw [List.mem_map]
  exact ⟨p.i, List.mem_range.mpr (by omega), rfl⟩
theorem rooms_all : ∀ m : Nat, m < 10 → (Kzs2.rooms m).all (fun r => decide (r.i + r.j + (if r.u then 1 else 2) ≤ m)) = true := by decide +kernel
theorem room_in {m : Nat} {r : Kzs2.Room} (hm : m ≤ 9) (h : r ∈ Kzs2.rooms m) : r.i + r.j + (if r.u then 1 else 2) ≤ m := of_decide_eq_true (List.all_eq_true.mp (rooms_all m (by omega)) r h)
theorem corner_in {m : Nat} {r : Kzs2.Room} {p : Kzs2.Place} (hm : m ≤ 9) (h : r ∈ Kzs2.rooms m) (hp : p ∈ Kzs2.corners r) : p ∈ Kzs2.places m := by
  have q := room_in hm h
  obtain ⟨i, j, u⟩ := r
  cases u with
  | true =>
    simp only [Kzs2.corners, if_true, List.mem_cons, List.not_mem_nil, or_false] at hp
    have q : i + j + 1 ≤ m := q
    rcases hp with rfl | rfl | rfl <;> refine mem_places ?_ <;> dsimp only <;> omega
  | false =>
    have e : Kzs2.corners ⟨i, j, false⟩ = [⟨i + 1, j + 1⟩, ⟨i, j + 1⟩, ⟨i + 1, j⟩] := rfl
    rw [e] at hp
    simp only [List.mem_cons, List.not_mem_nil, or_false] at hp
    have q : i + j + 2 ≤ m := q
    rcases hp with rfl | rfl | rfl <;> refine mem_places ?_ <;> dsimp only <;> omega
theorem fair_at {m : Nat} {c : List Nat} {p : Kzs2.Place} (hm : m ≤ 9) (hf : Kzs2.fair m c = true) (hp : p ∈ Kzs2.places m) : Kzs2.colour m c p ≤ 2 ∧ Kzs2.number m p (Kzs2.colour m c p) ≠ 0 := by
  obtain ⟨hl, h⟩ := (fair_iff hm).mp hf
  obtain ⟨i, hi⟩ := List.mem_iff_getElem?.mp hp
  have hlt : i < c.length := by
    rw [hl]
    exact (List.getElem?_eq_some_iff.mp hi).1
  have q := h i p c[i] hi (List.getElem?_eq_getElem hlt)
  have e : Kzs2.colour m c p = c[i] := by
    unfold Kzs2.colour
    rw [noOf_at hm hi]
    exact getD_at (List.getElem?_eq_getElem hlt)
  rw [e]
  exact q
theorem colour_at {m i : Nat} {c : List Nat} {p : Kzs2.Place} {x : Nat} (hm : m ≤ 9) (hi : (Kzs2.places m)[i]? = some p) (hx : c[i]? = some x) : Kzs2.colour m c p = x := by
  unfold Kzs2.colour
  rw [noOf_at hm hi]
  exact getD_at hx
def turnI (x y z : Int) : Int := if (z - y) % 3 = (y - x) % 3 then (y - x) % 3 else 0
theorem meets_turn {m : Nat} {c : List Nat} {r : Kzs2.Room} {x y z : Nat} (h : Kzs2.colours m c r = [x, y, z]) (hx : x ≤ 2) (hy : y ≤ 2) (hz : z ≤ 2) : (Kzs2.meets m c r : Int) = turnI x y z := by
  unfold Kzs2.meets
  rw [h]
  obtain rfl | rfl | rfl : x = 0 ∨ x = 1 ∨ x = 2 := by omega
  all_goals obtain rfl | rfl | rfl : y = 0 ∨ y = 1 ∨ y = 2 := by omega
  all_goals obtain rfl | rfl | rfl : z = 0 ∨ z = 1 ∨ z = 2 := by omega
  all_goals rfl
theorem corners_three (r : Kzs2.Room) : ∃ p q s, Kzs2.corners r = [p, q, s] := by
  obtain ⟨i, j, u⟩ := r
  cases u
  · exact ⟨_, _, _, rfl⟩
  · exact ⟨_, _, _, rfl⟩
/-- what meets in room k -/
def mt (m : Nat) (c : List Nat) (k : Nat) : Nat := Kzs2.meets m c ((Kzs2.rooms m).getD k ⟨0, 0, true⟩)
theorem mt_at {m : Nat} {c : List Nat} {k : Nat} {r : Kzs2.Room} (h : (Kzs2.rooms m)[k]? = some r) : mt m c k = Kzs2.meets m c r := by
  unfold mt
  rw [List.getD_eq_getElem?_getD, h]
  rfl
def foundTo (m : Nat) (c : List Nat) (i : Nat) : List Nat := (List.range i).filter fun k => mt m c k != 0
theorem foundTo_all (m : Nat) (c : List Nat) : Kzs2.found m c = foundTo m c (Kzs2.rooms m).length := rfl
theorem foundTo_yes {m : Nat} {c : List Nat} {i : Nat} (h : mt m c i ≠ 0) : foundTo m c (i + 1) = foundTo m c i ++ [i] := by
  unfold foundTo
  rw [List.range_succ, List.filter_append]
  have e : (mt m c i != 0) = true := bne_iff_ne.mpr h
  rw [List.filter_cons, e]
  rfl
theorem foundTo_no {m : Nat} {c : List Nat} {i : Nat} (h : mt m c i = 0) : foundTo m c (i + 1) = foundTo m c i := by
  unfold foundTo
  rw [List.range_succ, List.filter_append, List.filter_cons, h]
  exact List.append_nil _
theorem foundTo_len (m : Nat) (c : List Nat) (i : Nat) : (foundTo m c i).length ≤ i := by
  have h := List.length_filter_le (fun k => mt m c k != 0) (List.range i)
  rw [List.length_range] at h
  exact h
theorem rooms_few {m : Nat} (hm : m ≤ 9) : (Kzs2.rooms m).length ≤ 162 := by
  have a := upTo_len m m
  have c : 2 * m * m ≤ 18 * 9 := Nat.mul_le_mul (by omega) (by omega)
  rw [rooms_upTo]
  omega
theorem withFair_no {m : Int} {c : List Int} (h : ¬ ((1 ≤ m ∧ m ≤ 9) ∧ Kzs2.fair m.toNat (c.map Int.toNat) = true)) (k : Unit → Kzs1.Ans) : Kzs2.withFair m.toNat (Kzs2Neutral.natsOf c) k = Kzs1.say (-22) := by
  unfold Kzs2.withFair Kzs2.most
  refine if_pos ?_
  by_cases a : m.toNat = 0 ∨ 9 < m.toNat
  · exact a.elim Or.inl fun z => Or.inr (Or.inl z)
  · refine Or.inr (Or.inr ?_)
    cases q : Kzs2.fair m.toNat (Kzs2Neutral.natsOf c) with
    | false => rfl
    | true => exact absurd ⟨by omega, q⟩ h
theorem withFair_yes {n : Nat} {c : List Int} (h : 1 ≤ n ∧ n ≤ 9) (hf : Kzs2.fair n (c.map Int.toNat) = true) (k : Unit → Kzs1.Ans) : Kzs2.withFair n (Kzs2Neutral.natsOf c) k = k () := by
  unfold Kzs2.withFair Kzs2.most
  refine if_neg ?_
  rintro (a | a | a)
  · omega
  · omega
  · have q : Kzs2.fair n (Kzs2Neutral.natsOf c) = true := hf
    rw [q] at a
    cases a
theorem f_found_no (m : Int) (c : List Int) (h : ¬ ((1 ≤ m ∧ m ≤ 9) ∧ Kzs2.fair m.toNat (c.map Int.toNat) = true)) : PyKzs2.found m c = [-22] := by
  show (Kzs2.answer (.found m.toNat (Kzs2Neutral.natsOf c))).value :: (Kzs2.answer (.found m.toNat (Kzs2Neutral.natsOf c))).nums = [-22]
  have e : Kzs2.answer (.found m.toNat (Kzs2Neutral.natsOf c)) = Kzs1.say (-22) := by
    rw [Kzs2.answer]
    exact withFair_no h _
  rw [e]
  rfl
theorem f_found (n : Nat) (c : List Int) (h : 1 ≤ n ∧ n ≤ 9) (hf : Kzs2.fair n (c.map Int.toNat) = true) : PyKzs2.found (n : Int) c = ((foundTo n (c.map Int.toNat) (Kzs2.rooms n).length).length : Int) :: (foundTo n (c.map Int.toNat) (Kzs2.rooms n).length).flatMap fun (k : Nat) => [(k : Int), (mt n (c.map Int.toNat) k : Int)] := by
  show (Kzs2.answer (.found n (Kzs2Neutral.natsOf c))).value :: (Kzs2.answer (.found n (Kzs2Neutral.natsOf c))).nums = _
  have e : Kzs2.answer (.found n (Kzs2Neutral.natsOf c)) = ⟨((Kzs2.found n (Kzs2Neutral.natsOf c)).length : Nat), (Kzs2.found n (Kzs2Neutral.natsOf c)).flatMap fun (k : Nat) => [(k : Int), (mt n (Kzs2Neutral.natsOf c) k : Int)]⟩ := by
    rw [Kzs2.answer]
    exact withFair_yes h hf _
  rw [e]
  rfl
end Tri

/-! ### The text: places, scopes, readings (printed by tools/gen.py) -/
namespace Tri
open PySem PySem.Spec PyProof.Rows L2 Evl
def top (i : Nat) : Stmt := PySem.Challenge.pw_threecolours_s03_found.main.body.getD i (.Pass ⟨0, 0, 0, 0⟩)
abbrev st_is_size : Stmt := top 6
theorem sc_is_size : FnScope ["m"] ["m"] (defScope st_is_size) := ⟨rfl, rfl, rfl, by decide +kernel, rfl, by decide +kernel, by decide +kernel⟩
abbrev st_places : Stmt := top 7
theorem sc_places : FnScope ["m", "listed", "j", "i"] ["m"] (defScope st_places) := ⟨rfl, rfl, rfl, by decide +kernel, rfl, by decide +kernel, by decide +kernel⟩
abbrev st_are_fair : Stmt := top 8
theorem sc_are_fair : FnScope ["m", "c", "listed", "numbers", "colour"] ["m", "c"] (defScope st_are_fair) := ⟨rfl, rfl, rfl, by decide +kernel, rfl, by decide +kernel, by decide +kernel⟩
abbrev st_small_triangles : Stmt := top 9
theorem sc_small_triangles : FnScope ["m", "listed", "j", "i"] ["m"] (defScope st_small_triangles) := ⟨rfl, rfl, rfl, by decide +kernel, rfl, by decide +kernel, by decide +kernel⟩
abbrev st_corners_of : Stmt := top 10
theorem sc_corners_of : FnScope ["room", "i", "j"] ["room"] (defScope st_corners_of) := ⟨rfl, rfl, rfl, by decide +kernel, rfl, by decide +kernel, by decide +kernel⟩
abbrev st_colours_by_place : Stmt := top 11
theorem sc_colours_by_place : FnScope ["m", "c", "by_place", "numbers", "colour"] ["m", "c"] (defScope st_colours_by_place) := ⟨rfl, rfl, rfl, by decide +kernel, rfl, by decide +kernel, by decide +kernel⟩
abbrev st_turn_of : Stmt := top 12
theorem sc_turn_of : FnScope ["colours", "turn"] ["colours"] (defScope st_turn_of) := ⟨rfl, rfl, rfl, by decide +kernel, rfl, by decide +kernel, by decide +kernel⟩
abbrev st_found : Stmt := top 13
theorem sc_found : FnScope ["m", "c", "by_place", "told", "count", "number", "room", "turn", "place"] ["m", "c"] (defScope st_found) := ⟨rfl, rfl, rfl, by decide +kernel, rfl, by decide +kernel, by decide +kernel⟩
structure Txt (K : PySem.W.Frag) (mg : Str → Option Value) : Prop where
  g_COLOURS : ∃ u, mg "COLOURS" = some u ∧ RelV (.int (3)) u
  g_DOWN : ∃ u, mg "DOWN" = some u ∧ RelV (.int (0)) u
  g_LARGEST_SIZE : ∃ u, mg "LARGEST_SIZE" = some u ∧ RelV (.int (9)) u
  g_REFUSED_INPUT : ∃ u, mg "REFUSED_INPUT" = some u ∧ RelV (.int (-22)) u
  g_UP : ∃ u, mg "UP" = some u ∧ RelV (.int (1)) u
  n_enumerate : mg "enumerate" = none
  n_len : mg "len" = none
  n_range : mg "range" = none
  n_zip : mg "zip" = none
def t_is_size (K : PySem.W.Frag) : TS :=
  (tRet (tAndV (tOp rGeI (tVar 0) (tC (.int 1))) (tOp rLeI (tVar 0) (tC (.int (9))))))
def t_places (K : PySem.W.Frag) : TS :=
  (tSeq (tAsg (tLst tNil) (gName 1))
  (tSeq (tFor (iRng1 (tCons (tOp rAddI (tVar 0) (tC (.int 1))) tNil)) (gName 2)
  (tFor (iRng1 (tCons (tOp rSubI (tOp rAddI (tVar 0) (tC (.int 1))) (tVar 2)) tNil)) (gName 3)
  (tDrop (tBM K "list" rAppend (tVar 1) (tCons (tTup (tCons (tVar 3) (tCons (tVar 2) (tCons (tOp rSubI (tOp rSubI (tVar 0) (tVar 3)) (tVar 2)) tNil)))) tNil)))))
  (tRet (tVar 1))))
def t_are_fair (K : PySem.W.Frag) (sp_places : Sp) : TS :=
  (tSeq (tAsg (tCall sp_places [] E0 (tCons (tVar 0) tNil)) (gName 2))
  (tSeq (tIfS (tTest (tOp rNe (tCB (rLenS K) (tCons (tVar 1) tNil)) (tCB (rLenS K) (tCons (tVar 2) tNil))))
  (tRet (tC (.bl false)))
  tNext)
  (tSeq (tFor (iZip K (tCons (tVar 2) (tCons (tVar 1) tNil))) (gTup K 2 (gCons (gName 3) (gCons (gName 4) gNil)))
  (tIfS (tOr (tTest (tOp rGeI (tVar 4) (tC (.int (3))))) (tTest (tOp rEq (tOp (rIxT K) (tVar 3) (tVar 4)) (tC (.int 0)))))
  (tRet (tC (.bl false)))
  tNext))
  (tRet (tC (.bl true))))))
def t_small_triangles (K : PySem.W.Frag) : TS :=
  (tSeq (tAsg (tLst tNil) (gName 1))
  (tSeq (tFor (iRng1 (tCons (tVar 0) tNil)) (gName 2)
  (tFor (iRng1 (tCons (tOp rSubI (tVar 0) (tVar 2)) tNil)) (gName 3)
  (tSeq (tDrop (tBM K "list" rAppend (tVar 1) (tCons (tTup (tCons (tVar 3) (tCons (tVar 2) (tCons (tC (.int (1))) tNil)))) tNil)))
  (tIfS (tTest (tOp rLtI (tOp rAddI (tVar 3) (tVar 2)) (tOp rSubI (tVar 0) (tC (.int 1)))))
  (tDrop (tBM K "list" rAppend (tVar 1) (tCons (tTup (tCons (tVar 3) (tCons (tVar 2) (tCons (tC (.int (0))) tNil)))) tNil)))
  tNext))))
  (tRet (tVar 1))))
def t_corners_of (K : PySem.W.Frag) : TS :=
  (tSeq (tAsg (tOp (rIxT K) (tVar 0) (tC (.int 0))) (gName 1))
  (tSeq (tAsg (tOp (rIxT K) (tVar 0) (tC (.int 1))) (gName 2))
  (tSeq (tIfS (tTest (tOp rEq (tOp (rIxT K) (tVar 0) (tC (.int 2))) (tC (.int (1)))))
  (tRet (tLst (tCons (tTup (tCons (tVar 1) (tCons (tVar 2) tNil))) (tCons (tTup (tCons (tOp rAddI (tVar 1) (tC (.int 1))) (tCons (tVar 2) tNil))) (tCons (tTup (tCons (tVar 1) (tCons (tOp rAddI (tVar 2) (tC (.int 1))) tNil))) tNil)))))
  tNext)
  (tRet (tLst (tCons (tTup (tCons (tOp rAddI (tVar 1) (tC (.int 1))) (tCons (tOp rAddI (tVar 2) (tC (.int 1))) tNil))) (tCons (tTup (tCons (tVar 1) (tCons (tOp rAddI (tVar 2) (tC (.int 1))) tNil))) (tCons (tTup (tCons (tOp rAddI (tVar 1) (tC (.int 1))) (tCons (tVar 2) tNil))) tNil))))))))
def t_colours_by_place (K : PySem.W.Frag) (sp_places : Sp) : TS :=
  (tSeq (tAsg tDNewT (gName 2))
  (tSeq (tFor (iZip K (tCons (tCall sp_places [] E0 (tCons (tVar 0) tNil)) (tCons (tVar 1) tNil))) (gTup K 2 (gCons (gName 3) (gCons (gName 4) gNil)))
  (sDPut (tVar 2) (tTup (tCons (tOp (rIxT K) (tVar 3) (tC (.int 0))) (tCons (tOp (rIxT K) (tVar 3) (tC (.int 1))) tNil))) (tVar 4)))
  (tRet (tVar 2))))
def t_turn_of (K : PySem.W.Frag) : TS :=
  (tSeq (tAsg (tOp rModI (tOp rSubI (tOp (rIxL K) (tVar 0) (tC (.int 1))) (tOp (rIxL K) (tVar 0) (tC (.int 0)))) (tC (.int (3)))) (gName 1))
  (tSeq (tIfS (tTest (tOp rEq (tOp rModI (tOp rSubI (tOp (rIxL K) (tVar 0) (tC (.int 2))) (tOp (rIxL K) (tVar 0) (tC (.int 1)))) (tC (.int (3)))) (tVar 1)))
  (tRet (tVar 1))
  tNext)
  (tRet (tC (.int 0)))))
def t_found (K : PySem.W.Frag) (sp_is_size : Sp) (sp_are_fair : Sp) (sp_colours_by_place : Sp) (sp_small_triangles : Sp) (sp_turn_of : Sp) (sp_corners_of : Sp) : TS :=
  (tSeq (tIfS (tOr (tNot (tB (tCall sp_is_size [] E0 (tCons (tVar 0) tNil)))) (tNot (tB (tCall sp_are_fair [] E0 (tCons (tVar 0) (tCons (tVar 1) tNil))))))
  (tRet (tLst (tCons (tC (.int (-22))) tNil)))
  tNext)
  (tSeq (tAsg (tCall sp_colours_by_place [] E0 (tCons (tVar 0) (tCons (tVar 1) tNil))) (gName 2))
  (tSeq (tAsg (tLst tNil) (gName 3))
  (tSeq (tAsg (tC (.int 0)) (gName 4))
  (tSeq (tFor (iEnum K (tCons (tCall sp_small_triangles [] E0 (tCons (tVar 0) tNil)) tNil)) (gTup K 2 (gCons (gName 5) (gCons (gName 6) gNil)))
  (tSeq (tAsg (tCall sp_turn_of [] E0 (tCons (tLc (iList K (tCall sp_corners_of [] E0 (tCons (tVar 6) tNil))) (gName 8) tYes (tDGet (tVar 2) (tVar 8)) [8]) tNil)) (gName 7))
  (tIfS (tTest (tOp rGtI (tVar 7) (tC (.int 0))))
  (tSeq (tDrop (tBM K "list" rExtend (tVar 3) (tCons (tLst (tCons (tVar 5) (tCons (tVar 7) tNil))) tNil)))
  (tAug 4 (tC (.int 1)) (ipI fun a b => a + b)))
  tNext)))
  (tRet (tOp rCat (tLst (tCons (tVar 4) tNil)) (tVar 3))))))))
end Tri

/-! ### is_size -/
namespace Tri
open PySem PySem.Spec PyProof.Rows L2 Evl
def isSize (m : Int) : Bool := decide (1 ≤ m) && decide (m ≤ 9)
def sp_is_size (_ : PySem.W.Frag) : Sp := fun vs H Q _ => ∃ m : Int, vs = [.int m] ∧ RetV (.bl (isSize m)) H Q
section
variable {K : PySem.W.Frag} {vs : List V} {H : Hp} {Q : VK} {E : XK}
theorem len_is_size (h : sp_is_size K vs H Q E) : vs.length = 1 := by
  obtain ⟨m, rfl, _⟩ := h
  rfl
end
section
variable {K : PySem.W.Frag}
theorem read_is_size (vs : List V) (H : Hp) (Q : VK) (E : XK) (h : sp_is_size K vs H Q E) : t_is_size K { nx := fun _ H' => Q .non H', rt := Q } (start ["m"] vs) H := by
  obtain ⟨m, rfl, k⟩ := h
  exact s_ret (ev_andV (ev_op (ev_var rfl) ev_c rv_I0) fun _ => ev_op (ev_var rfl) ev_c rv_I0) k
end
end Tri

/-! ### places -/
namespace Tri
open PySem PySem.Spec PyProof.Rows L2 Evl
def placeV (m : Nat) (p : Kzs2.Place) : List V := [.int p.i, .int p.j, .int ((m : Int) - p.i - p.j)]
def sp_places (_ : PySem.W.Frag) : Sp := fun vs H Q _ => ∃ m : Nat, vs = [.int m] ∧ m ≤ 9 ∧ RetH ((Kzs2.places m).map (placeV m)) H Q
section
variable {K : PySem.W.Frag} {vs : List V} {H : Hp} {Q : VK} {E : XK}
theorem len_places (h : sp_places K vs H Q E) : vs.length = 1 := by
  obtain ⟨m, rfl, _⟩ := h
  rfl
end
section
variable {K : PySem.W.Frag}
theorem read_places (vs : List V) (H : Hp) (Q : VK) (E : XK) (h : sp_places K vs H Q E) : t_places K { nx := fun _ H' => Q .non H', rt := Q } (start ["m", "listed", "j", "i"] vs) H := by
  obtain ⟨m, rfl, hm, k⟩ := h
  refine q_asgL (el_lst ea_nil (by decide)) fun p H1 hp e1 h1 => ?_
  refine q_forR1 (n := (m : Int) + 1) (ea_cons (ev_op (ev_var rfl) ev_c rv_I0) ea_nil) ⟨by omega, by omega⟩ (fun j σ' H' => ∃ v2 v3, σ' = [some (.int m), some (.ref p), v2, v3] ∧ Grown H H' p ((pup m j).map (placeV m))) ?_ ?_ ?_
  · exact fun H2 e2 => ⟨none, none, rfl, (Grown.start hp e1 h1).ex e2⟩
  · rintro j σ' H' hj ⟨v2, v3, rfl, g⟩
    refine s_forR1 (n := (m : Int) + 1 - (j : Int)) (ea_cons (ev_op (ev_op (ev_var rfl) ev_c rv_I0) (ev_var rfl) rv_I0) ea_nil) ⟨by omega, by omega⟩ (fun i σ'' H'' => ∃ v3, σ'' = [some (.int m), some (.ref p), some (.int j), v3] ∧ Grown H H'' p ((pup m j ++ prow j i).map (placeV m))) ?_ ?_ ?_
    · exact fun H2 e2 => ⟨v3, rfl, (g.ex e2).is (by show _ = (pup m j ++ []).map (placeV m); rw [List.append_nil])⟩
    · rintro i σ'' H'' hi ⟨v3, rfl, g⟩
      have hl : ((pup m j ++ prow j i).map (placeV m)).length ≤ 1000 := by
        rw [List.length_map, List.length_append, prow_len]
        have a := pup_len m j
        have c : (m + 1) * j ≤ 10 * 10 := Nat.mul_le_mul (by omega) (by omega)
        omega
      refine s_push g (ev_var rfl) (eu_tup (ea_cons (ev_var rfl) (ea_cons (ev_var rfl) (ea_cons (ev_op (ev_op (ev_var rfl) (ev_var rfl) rv_I0) (ev_var rfl) rv_I0) ea_nil))) (by show 3 ≤ 100000; omega)) (by omega) fun H2 g2 => ⟨_, rfl, g2.is ?_⟩
      rw [prow_succ, ← List.append_assoc, List.map_append (l₁ := pup m j ++ prow j i)]
      rfl
    · rintro σ'' H'' ⟨v3, rfl, g⟩
      refine ⟨_, v3, rfl, g.is ?_⟩
      rw [pup_succ, show ((m : Int) + 1 - (j : Int)).toNat = m + 1 - j by omega]
  · rintro σ' H' ⟨v2, v3, rfl, g⟩
    refine s_ret (ev_var rfl) fun H2 e2 => k p H2 ((g.ex e2).is ?_)
    rw [places_pup]
    rfl
end
end Tri

/-! ### are_fair -/
namespace Tri
open PySem PySem.Spec PyProof.Rows L2 Evl
def sp_are_fair (K : PySem.W.Frag) : Sp := fun vs H Q _ => ∃ (m : Nat) (a : Addr) (cs : List Int), vs = [.int m, .ref a] ∧ m ≤ 9 ∧ SqL K H a (cs.map V.int) ∧ (∀ x ∈ cs, 0 ≤ x) ∧ RetV (.bl (Kzs2.fair m (cs.map Int.toNat))) H Q
section
variable {K : PySem.W.Frag} {vs : List V} {H : Hp} {Q : VK} {E : XK}
theorem len_are_fair (h : sp_are_fair K vs H Q E) : vs.length = 2 := by
  obtain ⟨m, a, cs, rfl, _⟩ := h
  rfl
end
section
variable {K : PySem.W.Frag}
theorem number_at {m x : Nat} {p : Kzs2.Place} (hp : p.i + p.j ≤ m) (hx : x ≤ 2) : (placeV m p)[x]? = some (.int (Kzs2.number m p x)) := by
  obtain rfl | rfl | rfl : x = 0 ∨ x = 1 ∨ x = 2 := by omega
  · rfl
  · rfl
  · show some (V.int ((m : Int) - p.i - p.j)) = some (V.int ((m - p.i - p.j : Nat) : Int))
    rw [show (m : Int) - p.i - p.j = ((m - p.i - p.j : Nat) : Int) by omega]
theorem read_are_fair (vs : List V) (H : Hp) (Q : VK) (E : XK) (h : sp_are_fair K vs H Q E) : t_are_fair K (sp_places K) { nx := fun _ H' => Q .non H', rt := Q } (start ["m", "c", "listed", "numbers", "colour"] vs) H := by
  obtain ⟨m, a, cs, rfl, hm, hS, hnn, k⟩ := h
  refine q_asgC (ea_cons (ev_var rfl) ea_nil) fun H1 e1 => ⟨m, rfl, hm, fun p H2 g => ?_⟩
  obtain ⟨hp, e2, as, h2, hd⟩ := g
  have hE : Ex H H2 := e1.trans e2
  have hal : as.length = (Kzs2.places m).length := by
    rw [hd.len, List.length_map]
  refine q_when (et_test (ev_op (ev_len (xs := cs.map V.int) (ev_var rfl) (ex_l hE hS)) (ev_len (xs := as.map V.ref) (ev_var rfl) (sq_of h2)) (rv_ne rfl))) (fun hb H3 e3 => ?_) (fun hb H3 e3 => ?_)
  · refine s_ret ev_c fun H4 e4 => ?_
    have hf : Kzs2.fair m (cs.map Int.toNat) = false := by
      cases q : Kzs2.fair m (cs.map Int.toNat) with
      | false => rfl
      | true =>
        have ql := ((fair_iff hm).mp q).1
        rw [List.length_map] at ql
        rw [List.length_map, List.length_map, hal, ql, decide_eq_true rfl] at hb
        cases hb
    have k' := k H4 ((hE.trans e3).trans e4)
    rw [hf] at k'
    exact k'
  · have hcl : cs.length = (Kzs2.places m).length := by
      rw [List.length_map, List.length_map, hal] at hb
      have q : decide (V.int (cs.length : Int) = V.int ((Kzs2.places m).length : Int)) = true := by simpa using hb
      have q2 := V.int.inj (of_decide_eq_true q)
      omega
    refine q_forZ (K := K) (a := p) (b := a) (xs := as.map V.ref) (ys := cs.map V.int) (ea_cons (ev_var rfl) (ea_cons (ev_var rfl) ea_nil)) (sq_of (e3 _ _ h2)) (ex_l (hE.trans e3) hS) (by rw [List.length_map, List.length_map, hal, hcl])
      (fun i σ' H' => ∃ v3 v4, σ' = [some (.int m), some (.ref a), some (.ref p), v3, v4] ∧ Ex H2 H' ∧ ∀ (t : Nat) (q : Kzs2.Place) (x : Nat), t < i → (Kzs2.places m)[t]? = some q → (cs.map Int.toNat)[t]? = some x → x ≤ 2 ∧ Kzs2.number m q x ≠ 0) ?_ ?_ ?_ ?_
    · exact fun H4 e4 => ⟨none, none, rfl, e3.trans e4, fun t _ _ ht => absurd ht (Nat.not_lt_zero t)⟩
    · rintro i σ' H' ⟨v3, v4, rfl, e, _⟩
      exact ⟨sq_of (e _ _ h2), ex_l (hE.trans e) hS⟩
    · rintro i x y σ' H' hx hy ⟨v3, v4, rfl, e, good⟩ H5 e5
      obtain ⟨b, z, rfl, hz, hb2⟩ := (hd.ex e).get hx
      rw [List.getElem?_map] at hz hy
      cases hq : (Kzs2.places m)[i]? with
      | none =>
        rw [hq] at hz
        cases hz
      | some q =>
        cases hc : cs[i]? with
        | none =>
          rw [hc] at hy
          cases hy
        | some ci =>
          rw [hq] at hz
          rw [hc] at hy
          obtain rfl : placeV m q = z := Option.some.inj hz
          obtain rfl : V.int ci = y := Option.some.inj hy
          have h0 : 0 ≤ ci := hnn ci (List.mem_of_getElem? hc)
          have hct : (cs.map Int.toNat)[i]? = some ci.toNat := by
            rw [List.getElem?_map, hc]
            rfl
          have hin := within_at hm hq
          refine s_when (et_or (b := decide (V.int (Kzs2.number m q ci.toNat) = V.int 0)) (et_test (ev_op (ev_var rfl) ev_c rv_I0)) (fun hle => et_test (ev_op (ev_op (ev_var rfl) (ev_var rfl) (rv_ixT (K := K) (st_of (e5 _ _ hb2)) (v := .int (Kzs2.number m q ci.toNat)) ?_)) ev_c (rv_eq rfl)))) (fun hb6 H6 e6 => ?_) (fun hb6 H6 e6 => ?_)
          · have hle2 := of_decide_eq_false hle
            exact at_of (j := ci.toNat) (by omega) (number_at hin (by omega))
          · refine s_ret ev_c fun H7 e7 => ?_
            have hf : Kzs2.fair m (cs.map Int.toNat) = false := by
              cases r : Kzs2.fair m (cs.map Int.toNat) with
              | false => rfl
              | true =>
                have ok := ((fair_iff hm).mp r).2 i q ci.toNat hq hct
                rw [Bool.or_eq_true, decide_eq_true_eq, decide_eq_true_eq] at hb6
                rcases hb6 with c | c
                · omega
                · have c2 := V.int.inj c
                  omega
            have k' := k H7 ((((hE.trans e).trans e5).trans e6).trans e7)
            rw [hf] at k'
            exact k'
          · refine ⟨_, _, rfl, (e.trans e5).trans e6, fun t q' x' ht hq' hx' => ?_⟩
            by_cases hti : t < i
            · exact good t q' x' hti hq' hx'
            · obtain rfl : t = i := by omega
              rw [hq] at hq'
              rw [hct] at hx'
              obtain rfl := Option.some.inj hq'
              obtain rfl := Option.some.inj hx'
              rw [Bool.or_eq_false_iff, decide_eq_false_iff_not, decide_eq_false_iff_not] at hb6
              refine ⟨by omega, fun z => hb6.2 ?_⟩
              rw [z]
              rfl
    · rintro σ' H' ⟨v3, v4, rfl, e, good⟩
      refine s_ret ev_c fun H7 e7 => ?_
      have hf : Kzs2.fair m (cs.map Int.toNat) = true := (fair_iff hm).mpr ⟨by rw [List.length_map]; exact hcl, fun t q x hq hx => good t q x (by
        rw [List.length_map, hal]
        exact (List.getElem?_eq_some_iff.mp hq).1) hq hx⟩
      have k' := k H7 ((hE.trans e).trans e7)
      rw [hf] at k'
      exact k'
end
end Tri

/-! ### small_triangles -/
namespace Tri
open PySem PySem.Spec PyProof.Rows L2 Evl
def roomV (r : Kzs2.Room) : List V := [.int r.i, .int r.j, .int (if r.u then 1 else 0)]
def sp_small_triangles (_ : PySem.W.Frag) : Sp := fun vs H Q _ => ∃ m : Nat, vs = [.int m] ∧ m ≤ 9 ∧ RetH ((Kzs2.rooms m).map roomV) H Q
section
variable {K : PySem.W.Frag} {vs : List V} {H : Hp} {Q : VK} {E : XK}
theorem len_small_triangles (h : sp_small_triangles K vs H Q E) : vs.length = 1 := by
  obtain ⟨m, rfl, _⟩ := h
  rfl
end
section
variable {K : PySem.W.Frag}
theorem room_up (i j : Nat) : roomV ⟨i, j, true⟩ = [.int i, .int j, .int 1] := rfl
theorem room_down (i j : Nat) : roomV ⟨i, j, false⟩ = [.int i, .int j, .int 0] := rfl
theorem read_small_triangles (vs : List V) (H : Hp) (Q : VK) (E : XK) (h : sp_small_triangles K vs H Q E) : t_small_triangles K { nx := fun _ H' => Q .non H', rt := Q } (start ["m", "listed", "j", "i"] vs) H := by
  obtain ⟨m, rfl, hm, k⟩ := h
  refine q_asgL (el_lst ea_nil (by decide)) fun p H1 hp e1 h1 => ?_
  refine q_forR1 (n := (m : Int)) (ea_cons (ev_var rfl) ea_nil) ⟨by omega, by omega⟩ (fun j σ' H' => ∃ v2 v3, σ' = [some (.int m), some (.ref p), v2, v3] ∧ Grown H H' p ((upTo m j).map roomV)) ?_ ?_ ?_
  · exact fun H2 e2 => ⟨none, none, rfl, (Grown.start hp e1 h1).ex e2⟩
  · rintro j σ' H' hj ⟨v2, v3, rfl, g⟩
    refine s_forR1 (n := (m : Int) - (j : Int)) (ea_cons (ev_op (ev_var rfl) (ev_var rfl) rv_I0) ea_nil) ⟨by omega, by omega⟩ (fun i σ'' H'' => ∃ v3, σ'' = [some (.int m), some (.ref p), some (.int j), v3] ∧ Grown H H'' p ((upTo m j ++ rowTo m j i).map roomV)) ?_ ?_ ?_
    · exact fun H2 e2 => ⟨v3, rfl, (g.ex e2).is (by show _ = (upTo m j ++ []).map roomV; rw [List.append_nil])⟩
    · rintro i σ'' H'' hi ⟨v3, rfl, g⟩
      have hl : ((upTo m j ++ rowTo m j i).map roomV).length ≤ 1000 := by
        rw [List.length_map, List.length_append]
        have a := upTo_len m j
        have b := rowTo_len m j i
        have c : 2 * m * j ≤ 18 * 9 := Nat.mul_le_mul (by omega) (by omega)
        omega
      refine q_push g (ev_var rfl) (eu_tup (ea_cons (ev_var rfl) (ea_cons (ev_var rfl) (ea_cons ev_c ea_nil))) (by show 3 ≤ 100000; omega)) (by omega) fun H2 g2 => ?_
      refine s_when (et_test (ev_op (ev_op (ev_var rfl) (ev_var rfl) rv_I0) (ev_op (ev_var rfl) ev_c rv_I0) rv_I0)) (fun hb H3 e3 => ?_) (fun hb H3 e3 => ?_)
      · have c : i + j + 2 ≤ m := by
          have := of_decide_eq_true hb
          omega
        refine s_push (g2.ex e3) (ev_var rfl) (eu_tup (ea_cons (ev_var rfl) (ea_cons (ev_var rfl) (ea_cons ev_c ea_nil))) (by show 3 ≤ 100000; omega)) (by rw [List.length_append]; show _ + 1 < 100000; omega) fun H4 g4 => ⟨_, rfl, g4.is ?_⟩
        rw [rowTo_succ, ← List.append_assoc, List.map_append (l₁ := upTo m j ++ rowTo m j i), List.append_assoc]
        have ec : cell m j i = [⟨i, j, true⟩, ⟨i, j, false⟩] := if_pos c
        rw [ec]
        rfl
      · have c : ¬ i + j + 2 ≤ m := by
          have := of_decide_eq_false hb
          omega
        refine ⟨_, rfl, (g2.ex e3).is ?_⟩
        rw [rowTo_succ, ← List.append_assoc, List.map_append (l₁ := upTo m j ++ rowTo m j i)]
        have ec : cell m j i = [⟨i, j, true⟩] := if_neg c
        rw [ec]
        rfl
    · rintro σ'' H'' ⟨v3, rfl, g⟩
      refine ⟨_, v3, rfl, g.is ?_⟩
      rw [upTo_succ, show ((m : Int) - (j : Int)).toNat = m - j by omega]
  · rintro σ' H' ⟨v2, v3, rfl, g⟩
    refine s_ret (ev_var rfl) fun H2 e2 => k p H2 ((g.ex e2).is ?_)
    rw [rooms_upTo]
    rfl
end
end Tri

/-! ### corners_of -/
namespace Tri
open PySem PySem.Spec PyProof.Rows L2 Evl
def pV (p : Kzs2.Place) : List V := [.int p.i, .int p.j]
def sp_corners_of (K : PySem.W.Frag) : Sp := fun vs H Q _ => ∃ (a : Addr) (r : Kzs2.Room), vs = [.ref a] ∧ SqT K H a (roomV r) ∧ RetH ((Kzs2.corners r).map pV) H Q
section
variable {K : PySem.W.Frag} {vs : List V} {H : Hp} {Q : VK} {E : XK}
theorem len_corners_of (h : sp_corners_of K vs H Q E) : vs.length = 1 := by
  obtain ⟨a, r, rfl, _⟩ := h
  rfl
end
section
variable {K : PySem.W.Frag}
theorem read_corners_of (vs : List V) (H : Hp) (Q : VK) (E : XK) (h : sp_corners_of K vs H Q E) : t_corners_of K { nx := fun _ H' => Q .non H', rt := Q } (start ["room", "i", "j"] vs) H := by
  obtain ⟨a, ⟨i, j, u⟩, rfl, hS, k⟩ := h
  refine q_asg (v := .int i) (ev_op (ev_var rfl) ev_c (rv_ixT (K := K) hS rfl)) fun H1 e1 => ?_
  refine q_asg (v := .int j) (ev_op (ev_var rfl) ev_c (rv_ixT (K := K) (ex_t e1 hS) rfl)) fun H2 e2 => ?_
  refine q_when (et_test (ev_op (ev_op (ev_var rfl) ev_c (rv_ixT (K := K) (ex_t (e1.trans e2) hS) rfl)) ev_c (rv_eq rfl))) (fun hb H3 e3 => ?_) (fun hb H3 e3 => ?_)
  · cases u with
    | false => cases hb
    | true => exact s_retH (eh_cons (eu_tup (ea_cons (ev_var rfl) (ea_cons (ev_var rfl) ea_nil)) (by show 2 ≤ 100000; omega)) (eh_cons (eu_tup (ea_cons (ev_op (ev_var rfl) ev_c rv_I0) (ea_cons (ev_var rfl) ea_nil)) (by show 2 ≤ 100000; omega))
        (eh_cons (eu_tup (ea_cons (ev_var rfl) (ea_cons (ev_op (ev_var rfl) ev_c rv_I0) ea_nil)) (by show 2 ≤ 100000; omega)) eh_nil))) (by show 3 ≤ 100000; omega) (k.go ((e1.trans e2).trans e3))
  · cases u with
    | true => cases hb
    | false => exact s_retH (eh_cons (eu_tup (ea_cons (ev_op (ev_var rfl) ev_c rv_I0) (ea_cons (ev_op (ev_var rfl) ev_c rv_I0) ea_nil)) (by show 2 ≤ 100000; omega)) (eh_cons (eu_tup (ea_cons (ev_var rfl) (ea_cons (ev_op (ev_var rfl) ev_c rv_I0) ea_nil)) (by show 2 ≤ 100000; omega))
        (eh_cons (eu_tup (ea_cons (ev_op (ev_var rfl) ev_c rv_I0) (ea_cons (ev_var rfl) ea_nil)) (by show 2 ≤ 100000; omega)) eh_nil))) (by show 3 ≤ 100000; omega) (k.go ((e1.trans e2).trans e3))
end
end Tri

/-! ### colours_by_place -/
namespace Tri
open PySem PySem.Spec PyProof.Rows L2 Evl
abbrev kP (q : Kzs2.Place) : List L2.Key := [.inl (q.i : Int), .inl (q.j : Int)]
/-- at p stands the dict of the colours by place -/
def ColD (H : Hp) (p : Addr) (m : Nat) (c : List Nat) : Prop := ∃ kvs : List (List L2.Key × V), H p = some (.dT kvs) ∧ ∀ q ∈ Kzs2.places m, valV kvs (kP q) = some (.int (Kzs2.colour m c q : Nat))
theorem ColD.ex {H H' : Hp} {p : Addr} {m : Nat} {c : List Nat} (e : Ex H H') (h : ColD H p m c) : ColD H' p m c :=
  let ⟨kvs, a, b⟩ := h
  ⟨kvs, e _ _ a, b⟩
def sp_colours_by_place (K : PySem.W.Frag) : Sp := fun vs H Q _ => ∃ (m : Nat) (a : Addr) (cs : List Int), vs = [.int m, .ref a] ∧ m ≤ 9 ∧ SqL K H a (cs.map V.int) ∧ (∀ x ∈ cs, 0 ≤ x) ∧ cs.length = (Kzs2.places m).length ∧
  ∀ p H2, H p = none → Ex H H2 → ColD H2 p m (cs.map Int.toNat) → Q (.ref p) H2
section
variable {K : PySem.W.Frag} {vs : List V} {H : Hp} {Q : VK} {E : XK}
theorem len_colours_by_place (h : sp_colours_by_place K vs H Q E) : vs.length = 2 := by
  obtain ⟨m, a, cs, rfl, _⟩ := h
  rfl
end
theorem kP_inj {p q : Kzs2.Place} (h : kP p = kP q) : p = q := by
  obtain ⟨i, j⟩ := p
  obtain ⟨i', j'⟩ := q
  simp only [kP, List.cons.injEq, Sum.inl.injEq, and_true] at h
  obtain ⟨h1, h2⟩ := h
  rw [Int.ofNat_inj.mp h1, Int.ofNat_inj.mp h2]
section
variable {K : PySem.W.Frag}
theorem read_colours_by_place (vs : List V) (H : Hp) (Q : VK) (E : XK) (h : sp_colours_by_place K vs H Q E) : t_colours_by_place K (sp_places K) { nx := fun _ H' => Q .non H', rt := Q } (start ["m", "c", "by_place", "numbers", "colour"] vs) H := by
  obtain ⟨m, a, cs, rfl, hm, hS, hnn, hcl, k⟩ := h
  refine q_asgDT fun d hd => ?_
  refine q_forZC (K := K) (ea_cons (ev_var rfl) ea_nil) fun H1 e1 => ⟨m, rfl, hm, fun p H2 g => ?_⟩
  obtain ⟨hp, e2, as, h2, hh⟩ := g
  have hal : as.length = (Kzs2.places m).length := by
    rw [hh.len, List.length_map]
  have hE : Ex H H2 := (Ex.new hd).trans (e1.trans e2)
  have hd2 : H2 d = some (.dT []) := e2 _ _ (e1 _ _ upd_same)
  refine (ea_cons (ev_var rfl) ea_nil : EvA (tCons (tVar 1) tNil) _ H2 [.ref a]) H2 (Ex.refl H2) _ fun H3 e3 => ⟨p, a, as.map V.ref, cs.map V.int, rfl, sq_of (e3 _ _ h2), ex_l (hE.trans e3) hS, ?_⟩
  refine zip_go (xs := as.map V.ref) (ys := cs.map V.int) (by rw [List.length_map, List.length_map, hal, hcl]) (fun i σ' H' => ∃ v3 v4 kvs, σ' = [some (.int m), some (.ref a), some (.ref d), v3, v4] ∧ Ex H H' ∧ H' p = some (.lst (as.map V.ref)) ∧ Held H' as ((Kzs2.places m).map (placeV m)) ∧ H' d = some (.dT kvs) ∧ kvs.length ≤ i ∧
    ∀ (t : Nat) (q : Kzs2.Place), t < i → (Kzs2.places m)[t]? = some q → valV kvs (kP q) = some (.int (Kzs2.colour m (cs.map Int.toNat) q : Nat))) ?_ ?_ ?_ ?_
  · exact ⟨none, none, [], rfl, hE.trans e3, e3 _ _ h2, hh.ex e3, e3 _ _ hd2, Nat.le_refl 0, fun t _ ht => absurd ht (Nat.not_lt_zero t)⟩
  · rintro i σ' H' ⟨v3, v4, kvs, rfl, b1, b2, _⟩
    exact ⟨sq_of b2, ex_l b1 hS⟩
  · rintro i x y σ' H' hx hy ⟨v3, v4, kvs, rfl, b1, b2, b3, b4, b5, good⟩ H5 e5
    obtain ⟨b, z, rfl, hz, hb⟩ := b3.get hx
    have hi : i < (Kzs2.places m).length := by
      have := (List.getElem?_eq_some_iff.mp hx).1
      rw [List.length_map, hal] at this
      exact this
    have hpl : (Kzs2.places m).length ≤ 1000 := by
      have a := pup_len m (m + 1)
      have c : (m + 1) * (m + 1) ≤ 10 * 10 := Nat.mul_le_mul (by omega) (by omega)
      rw [places_pup]
      omega
    rw [List.getElem?_map] at hz hy
    cases hq : (Kzs2.places m)[i]? with
    | none =>
      rw [hq] at hz
      cases hz
    | some q =>
      cases hc : cs[i]? with
      | none =>
        rw [hc] at hy
        cases hy
      | some ci =>
        rw [hq] at hz
        rw [hc] at hy
        obtain rfl : placeV m q = z := Option.some.inj hz
        obtain rfl : V.int ci = y := Option.some.inj hy
        have h0 : 0 ≤ ci := hnn ci (List.mem_of_getElem? hc)
        have hct : (cs.map Int.toNat)[i]? = some ci.toNat := by
          rw [List.getElem?_map, hc]
          rfl
        have hcol : ((Kzs2.colour m (cs.map Int.toNat) q : Nat) : Int) = ci := by
          rw [colour_at hm hq hct]
          omega
        refine s_dputT (kvs := kvs) (ks := kP q) (v := .int ci) (e5 _ _ b4) (by omega) (ev_var rfl) (eu_tup (ea_cons (ev_op (ev_var rfl) ev_c (rv_ixT (K := K) (st_of (e5 _ _ hb)) rfl)) (ea_cons (ev_op (ev_var rfl) ev_c (rv_ixT (K := K) (st_of (e5 _ _ hb)) rfl)) ea_nil)) (by show 2 ≤ 100000; omega)) (ev_var rfl) fun H6 e6 => ?_
        have e56 := e5.trans e6
        have hdp : p ≠ d := ne_of (e56 _ _ b2) (e56 _ _ b4) (fun z => by cases z)
        refine ⟨_, _, putK kvs (kP q) (.int ci), rfl, Ex.mut (b1.trans e56) hd, ?_, (b3.ex e56).tx (Tx.mut (e56 _ _ b4) (fun _ z => by cases z)), upd_same, ?_, fun t q' ht hq' => ?_⟩
        · rw [upd_ne hdp]
          exact e56 _ _ b2
        · have := length_putK kvs (kP q) (.int ci)
          omega
        · rw [valV_put]
          by_cases c : kP q' = kP q
          · rw [if_pos c]
            obtain rfl := kP_inj c
            rw [hcol]
          · rw [if_neg c]
            refine good t q' ?_ hq'
            by_cases hti : t < i
            · exact hti
            · obtain rfl : t = i := by omega
              rw [hq] at hq'
              obtain rfl := Option.some.inj hq'
              exact absurd rfl c
  · rintro σ' H' ⟨v3, v4, kvs, rfl, b1, b2, b3, b4, b5, good⟩
    refine s_ret (ev_var rfl) fun H7 e7 => k d H7 hd (b1.trans e7) ⟨kvs, e7 _ _ b4, fun q hq => ?_⟩
    obtain ⟨t, ht⟩ := List.mem_iff_getElem?.mp hq
    exact good t q (by
      rw [List.length_map, hal]
      exact (List.getElem?_eq_some_iff.mp ht).1) ht
end
end Tri

/-! ### turn_of -/
namespace Tri
open PySem PySem.Spec PyProof.Rows L2 Evl
def sp_turn_of (K : PySem.W.Frag) : Sp := fun vs H Q _ => ∃ (a : Addr) (x y z : Int), vs = [.ref a] ∧ SqL K H a [.int x, .int y, .int z] ∧ RetV (.int (turnI x y z)) H Q
section
variable {K : PySem.W.Frag} {vs : List V} {H : Hp} {Q : VK} {E : XK}
theorem len_turn_of (h : sp_turn_of K vs H Q E) : vs.length = 1 := by
  obtain ⟨a, x, y, z, rfl, _⟩ := h
  rfl
end
section
variable {K : PySem.W.Frag}
theorem read_turn_of (vs : List V) (H : Hp) (Q : VK) (E : XK) (h : sp_turn_of K vs H Q E) : t_turn_of K { nx := fun _ H' => Q .non H', rt := Q } (start ["colours", "turn"] vs) H := by
  obtain ⟨a, x, y, z, rfl, hS, k⟩ := h
  refine q_asg (v := .int ((y - x) % 3)) (ev_op (ev_op (ev_op (ev_var rfl) ev_c (rv_ixL (K := K) hS rfl)) (ev_op (ev_var rfl) ev_c (rv_ixL (K := K) hS rfl)) rv_I0) ev_c (rv_I (by decide))) fun H1 e1 => ?_
  refine q_when (et_test (ev_op (ev_op (ev_op (ev_op (ev_var rfl) ev_c (rv_ixL (K := K) (ex_l e1 hS) rfl)) (ev_op (ev_var rfl) ev_c (rv_ixL (K := K) (ex_l e1 hS) rfl)) rv_I0) ev_c (rv_I (by decide))) (ev_var rfl) (rv_eq rfl))) (fun hb H2 e2 => ?_) (fun hb H2 e2 => ?_)
  · refine s_ret (ev_var rfl) fun H3 e3 => ?_
    have q := V.int.inj (of_decide_eq_true hb)
    have e : turnI x y z = (y - x) % 3 := if_pos q
    have k' := k H3 ((e1.trans e2).trans e3)
    rw [e] at k'
    exact k'
  · refine s_ret ev_c fun H3 e3 => ?_
    have q : ¬ (z - y) % 3 = (y - x) % 3 := fun w => of_decide_eq_false hb (congrArg V.int w)
    have e : turnI x y z = 0 := if_neg q
    have k' := k H3 ((e1.trans e2).trans e3)
    rw [e] at k'
    exact k'
end
end Tri

/-! ### what is refused: m no size, c not fair -/
namespace Tri
open PySem PySem.Spec PyProof.Rows L2 Evl
section
variable {K : PySem.W.Frag}
/-- c isn't fair, or m no size -/
theorem et_refused {σ : L2.St} {H : Hp} {m : Int} {a : Addr} {cs : List Int} (h0 : σ[0]? = some (some (.int m))) (h1 : σ[1]? = some (some (.ref a))) (hS : SqL K H a (cs.map V.int)) (hnn : ∀ x ∈ cs, 0 ≤ x) :
    EvT (tOr (tNot (tB (tCall (sp_is_size K) [] E0 (tCons (tVar 0) tNil)))) (tNot (tB (tCall (sp_are_fair K) [] E0 (tCons (tVar 0) (tCons (tVar 1) tNil)))))) σ H (!isSize m || !Kzs2.fair m.toNat (cs.map Int.toNat)) :=
  et_or (et_not (et_B (ev_call (ea_cons (ev_var h0) ea_nil) fun H1 e Q q E => ⟨m, rfl, q⟩))) fun hb => et_not (et_B (ev_call (ea_cons (ev_var h0) (ea_cons (ev_var h1) ea_nil)) fun H1 e Q q E => by
    have hs : 1 ≤ m ∧ m ≤ 9 := by
      have : isSize m = true := by simpa using hb
      simpa [isSize] using this
    exact ⟨m.toNat, a, cs, by rw [Int.toNat_of_nonneg (by omega)]; rfl, by omega, ex_l e hS, hnn, q⟩))
theorem refused_no {m : Int} {c : List Nat} (h : (!isSize m || !Kzs2.fair m.toNat c) = true) : ¬ ((1 ≤ m ∧ m ≤ 9) ∧ Kzs2.fair m.toNat c = true) := by
  rintro ⟨a, b⟩
  rw [b] at h
  simp [isSize, a.1, a.2] at h
theorem refused_yes {m : Int} {c : List Nat} (h : (!isSize m || !Kzs2.fair m.toNat c) = false) : ∃ n : Nat, m = (n : Int) ∧ (1 ≤ n ∧ n ≤ 9) ∧ Kzs2.fair n c = true := by
  rw [Bool.or_eq_false_iff] at h
  have h1 : isSize m = true := by simpa using h.1
  have h2 : Kzs2.fair m.toNat c = true := by simpa using h.2
  have h3 : 1 ≤ m ∧ m ≤ 9 := by simpa [isSize] using h1
  exact ⟨m.toNat, by omega, by omega, h2⟩
end
end Tri

/-! ### found -/
namespace Tri
open PySem PySem.Spec PyProof.Rows L2 Evl
def sp_found (K : PySem.W.Frag) : Sp := fun vs H Q _ => ∃ (m : Int) (a : Addr) (cs : List Int), vs = [.int m, .ref a] ∧ SqL K H a (cs.map V.int) ∧ (∀ x ∈ cs, 0 ≤ x) ∧
  ∀ (H' : Hp) (p : Addr), H' p = some (.lst ((PyKzs2.found m cs).map V.int)) → Q (.ref p) H'
section
variable {K : PySem.W.Frag} {vs : List V} {H : Hp} {Q : VK} {E : XK}
theorem len_found (h : sp_found K vs H Q E) : vs.length = 2 := by
  obtain ⟨m, a, cs, rfl, _⟩ := h
  rfl
end
def toldTo (m : Nat) (c : List Nat) (i : Nat) : List V := (foundTo m c i).flatMap fun (k : Nat) => [V.int k, V.int (mt m c k)]
theorem toldTo_yes {m : Nat} {c : List Nat} {i : Nat} (h : mt m c i ≠ 0) : toldTo m c (i + 1) = toldTo m c i ++ [.int i, .int (mt m c i)] := by
  unfold toldTo
  rw [foundTo_yes h, List.flatMap_append]
  rfl
theorem toldTo_no {m : Nat} {c : List Nat} {i : Nat} (h : mt m c i = 0) : toldTo m c (i + 1) = toldTo m c i := by
  unfold toldTo
  rw [foundTo_no h]
theorem pairs_len {α β : Type} (f : α → List β) (h : ∀ x, (f x).length = 2) : ∀ l : List α, (l.flatMap f).length = 2 * l.length
  | [] => rfl
  | x :: l => by
    rw [List.flatMap_cons, List.length_append, h x, pairs_len f h l, List.length_cons]
    omega
theorem toldTo_len (m : Nat) (c : List Nat) (i : Nat) : (toldTo m c i).length ≤ 2 * i := by
  unfold toldTo
  rw [pairs_len _ (fun _ => rfl)]
  have := foundTo_len m c i
  omega
section
variable {K : PySem.W.Frag}
theorem read_found (vs : List V) (H : Hp) (Q : VK) (E : XK) (h : sp_found K vs H Q E) : t_found K (sp_is_size K) (sp_are_fair K) (sp_colours_by_place K) (sp_small_triangles K) (sp_turn_of K) (sp_corners_of K) { nx := fun _ H' => Q .non H', rt := Q } (start ["m", "c", "by_place", "told", "count", "number", "room", "turn", "place"] vs) H := by
  obtain ⟨m, a, cs, rfl, hS, hnn, k⟩ := h
  refine q_when (et_refused rfl rfl hS hnn) (fun hb H1 e1 => ?_) (fun hb H1 e1 => ?_)
  · refine s_retL (el_lst (ea_cons ev_c ea_nil) (by decide)) fun p H2 hp e2 h2 => k H2 p ?_
    rw [f_found_no m cs (refused_no hb)]
    exact h2
  · obtain ⟨n, rfl, hn, hf⟩ := refused_yes hb
    have hcl : cs.length = (Kzs2.places n).length := by
      have q := ((fair_iff hn.2).mp hf).1
      rw [List.length_map] at q
      exact q
    refine q_asgC (ea_cons (ev_var rfl) (ea_cons (ev_var rfl) ea_nil)) fun H2 e2 => ⟨n, a, cs, rfl, hn.2, ex_l (e1.trans e2) hS, hnn, hcl, fun d H3 hd e3 hD => ?_⟩
    refine q_asgL (el_lst ea_nil (by decide)) fun l H4 hl e4 h4 => ?_
    refine q_asg ev_c fun H5 e5 => ?_
    refine q_forEC (K := K) (ea_cons (ev_var rfl) ea_nil) fun H6 e6 => ⟨n, rfl, hn.2, fun p H7 g => ?_⟩
    obtain ⟨hp, e7, as, h7, hh⟩ := g
    have hal : as.length = (Kzs2.rooms n).length := by
      rw [hh.len, List.length_map]
    have hrl := rooms_few hn.2
    have hE : Ex H4 H7 := (e5.trans e6).trans e7
    refine ⟨p, as.map V.ref, rfl, sq_of h7, enum_go (xs := as.map V.ref) (fun i σ' H' => ∃ v5 v6 v7, σ' = [some (.int n), some (.ref a), some (.ref d), some (.ref l), some (.int ((foundTo n (cs.map Int.toNat) i).length : Nat)), v5, v6, v7, none] ∧ H' p = some (.lst (as.map V.ref)) ∧
      Held H' as ((Kzs2.rooms n).map roomV) ∧ ColD H' d n (cs.map Int.toNat) ∧ H' l = some (.lst (toldTo n (cs.map Int.toNat) i))) ?_ ?_ ?_ ?_⟩
    · exact ⟨none, none, none, rfl, h7, hh, (hD.ex e4).ex hE, hE _ _ h4⟩
    · rintro i σ' H' hi ⟨v5, v6, v7, rfl, b1, _⟩
      exact sq_of b1
    · rintro i x σ' H' hx ⟨v5, v6, v7, rfl, b1, b2, b3, b4⟩ H8 e8
      obtain ⟨b, z, rfl, hz, hb8⟩ := b2.get hx
      have hi : i < (Kzs2.rooms n).length := by
        have := (List.getElem?_eq_some_iff.mp hx).1
        rw [List.length_map, hal] at this
        exact this
      rw [List.getElem?_map] at hz
      cases hq : (Kzs2.rooms n)[i]? with
      | none =>
        rw [hq] at hz
        cases hz
      | some r =>
        rw [hq] at hz
        obtain rfl : roomV r = z := Option.some.inj hz
        have hr : r ∈ Kzs2.rooms n := List.mem_of_getElem? hq
        obtain ⟨p0, p1, p2, hc⟩ := corners_three r
        have i0 := corner_in hn.2 hr (p := p0) (by rw [hc]; simp)
        have i1 := corner_in hn.2 hr (p := p1) (by rw [hc]; simp)
        have i2 := corner_in hn.2 hr (p := p2) (by rw [hc]; simp)
        have hcol : Kzs2.colours n (cs.map Int.toNat) r = [Kzs2.colour n (cs.map Int.toNat) p0, Kzs2.colour n (cs.map Int.toNat) p1, Kzs2.colour n (cs.map Int.toNat) p2] := by
          unfold Kzs2.colours
          rw [hc]
          rfl
        have hmt : (mt n (cs.map Int.toNat) i : Int) = turnI (Kzs2.colour n (cs.map Int.toNat) p0) (Kzs2.colour n (cs.map Int.toNat) p1) (Kzs2.colour n (cs.map Int.toNat) p2) := by
          rw [mt_at hq]
          exact meets_turn hcol (fair_at hn.2 hf i0).1 (fair_at hn.2 hf i1).1 (fair_at hn.2 hf i2).1
        obtain ⟨kvs, c1, c2⟩ := b3
        refine q_asgCL (el_lcC (K := K) (rows := [pV p0, pV p1, pV p2]) (fun j => .int ((Kzs2.colours n (cs.map Int.toNat) r).getD j 0 : Nat)) (ea_cons (ev_var rfl) ea_nil) (fun H9 e9 Q' E' k' => ⟨b, r, rfl, st_of (e9 _ _ (e8 _ _ hb8)), k'.is (by rw [hc]; rfl)⟩) (by show 3 ≤ 40000; omega) (fun x => rfl) (fun j q row H9 e9 hrow hq9 => ?_)) fun u H9 e9 h9 => ⟨u, Kzs2.colour n (cs.map Int.toNat) p0, Kzs2.colour n (cs.map Int.toNat) p1, Kzs2.colour n (cs.map Int.toNat) p2, rfl, sq_of ?_, fun HA eA => ?_⟩
        · have cD : H9 d = some (.dT kvs) := e9 _ _ (e8 _ _ c1)
          rw [hcol]
          match j, hrow with
          | 0, hrow =>
            cases hrow
            exact ev_dgetT (ks := kP p0) (ev_var rfl) (ev_var rfl) cD hq9 (c2 p0 i0)
          | 1, hrow =>
            cases hrow
            exact ev_dgetT (ks := kP p1) (ev_var rfl) (ev_var rfl) cD hq9 (c2 p1 i1)
          | 2, hrow =>
            cases hrow
            exact ev_dgetT (ks := kP p2) (ev_var rfl) (ev_var rfl) cD hq9 (c2 p2 i2)
          | j + 3, hrow => cases hrow
        · rw [h9, hcol]
          rfl
        · rw [← hmt]
          have eA8 : Ex H' HA := (e8.trans e9).trans eA
          have hlen := toldTo_len n (cs.map Int.toNat) i
          refine s_when (et_test (ev_op (ev_var rfl) ev_c rv_I0)) (fun hbt HB eB => ?_) (fun hbt HB eB => ?_)
          · have hpos : mt n (cs.map Int.toNat) i ≠ 0 := by
              have := of_decide_eq_true hbt
              omega
            refine q_extL (us := toldTo n (cs.map Int.toNat) i) (ws := [.int i, .int (mt n (cs.map Int.toNat) i)]) (eB _ _ (eA8 _ _ b4)) (ev_var rfl) (el_lst (ea_cons (ev_var rfl) (ea_cons (ev_var rfl) ea_nil)) (by show 2 ≤ 100000; omega)) (by show _ + 2 ≤ 100000; omega) fun HC eC => ?_
            have eAll : Ex H' HC := (eA8.trans eB).trans eC
            refine s_aug rfl ev_c fun HD eD => ?_
            have hlC : HC l = some (.lst (toldTo n (cs.map Int.toNat) i)) := eAll _ _ b4
            have hlp : p ≠ l := fun z => by
              have q := e6 _ _ (e5 _ _ h4)
              rw [← z, hp] at q
              cases q
            have hdl : d ≠ l := ne_of (eAll _ _ c1) hlC (fun z => by cases z)
            refine ⟨some (.int i), some (.ref b), some (.int (mt n (cs.map Int.toNat) i)), ?_, eD _ _ ?_, ((b2.ex eAll).put hlC).ex eD, ⟨kvs, eD _ _ ?_, c2⟩, eD _ _ ?_⟩
            · rw [foundTo_yes hpos, List.length_append]
              rfl
            · rw [upd_ne hlp]
              exact eAll _ _ b1
            · rw [upd_ne hdl]
              exact eAll _ _ c1
            · rw [upd_same, toldTo_yes hpos]
          · have hz0 : mt n (cs.map Int.toNat) i = 0 := by
              have := of_decide_eq_false hbt
              omega
            have eAll : Ex H' HB := eA8.trans eB
            refine ⟨some (.int i), some (.ref b), some (.int (mt n (cs.map Int.toNat) i)), ?_, eAll _ _ b1, b2.ex eAll, ⟨kvs, eAll _ _ c1, c2⟩, ?_⟩
            · rw [foundTo_no hz0]
              rfl
            · rw [toldTo_no hz0]
              exact eAll _ _ b4
    · rintro σ' H' ⟨v5, v6, v7, rfl, b1, b2, b3, b4⟩
      rw [List.length_map, hal] at b4 ⊢
      have hlen := toldTo_len n (cs.map Int.toNat) (Kzs2.rooms n).length
      refine s_retL (el_cat (el_lst (ea_cons (ev_var rfl) ea_nil) (by show 1 ≤ 100000; omega)) (ev_var rfl) b4 (by show 1 + _ ≤ 100000; omega)) fun q HZ _ _ hZ => k HZ q ?_
      rw [hZ, f_found n cs hn hf]
      show some (HO.lst (.int _ :: toldTo _ _ _)) = _
      unfold toldTo
      rw [List.map_cons, List.map_flatMap]
      rfl
theorem asked (K : PySem.W.Frag) (H : Hp) (xs : List V) (a : PySem.W.Codec.denoteAll PySem.Challenge.rw_threecolours_s03_found.args) (hw : PySem.W.Codec.withinAll PySem.Challenge.rw_threecolours_s03_found.args a = true)
    (hx : DwAll K H xs (PySem.W.Codec.encAll PySem.Challenge.rw_threecolours_s03_found.args a)) :
    sp_found K xs H (fun v H' => Dw K H' v (PySem.Challenge.rw_threecolours_s03_found.ret.enc (PySem.W.Codec.app PySem.Challenge.rw_threecolours_s03_found.args PySem.Challenge.rw_threecolours_s03_found.f a))) fun _ _ _ => False := by
  cases hx with
  | cons h1 h2 =>
    cases h1
    cases h2 with
    | cons h3 h4 =>
      cases h4
      cases h3 with
      | lst hs ha =>
        have e := L2.ints_dw a.2.1 _ ha
        subst e
        have q : (PySem.W.Codec.inInt 0 4294967295 a.1 && ((PySem.W.Codec.inLen 0 200 a.2.1 && a.2.1.all (PySem.W.Codec.inInt 0 4294967295)) && true)) = true := hw
        rw [Bool.and_eq_true, Bool.and_eq_true, Bool.and_eq_true] at q
        refine ⟨a.1, _, a.2.1, rfl, hs, fun x hx => ?_, fun H' p hp => .lst (L2.SqL.of hp) (L2.dw_ints _)⟩
        have r := List.all_eq_true.mp q.2.1.2 x hx
        unfold PySem.W.Codec.inInt at r
        rw [Bool.and_eq_true, decide_eq_true_eq] at r
        exact r.1
end
end Tri

/-! ### Each def holds its promise (printed by tools/gen.py): the derivation, then read_f -/
namespace Tri
open PySem PySem.Spec PyProof.Rows L2 Evl
section
variable {P : Program} {w : World} {K : PySem.W.Frag} {mg : Str → Option Value} {base : Heap}
theorem ok_is_size {f : Addr} {fd : FuncData} (F : Fun K "is_size" "is_size" st_is_size f fd) (T : Txt K mg) : FnOk P w K mg base CX0 1 f fd ["m"] (sp_is_size K) := by
  refine F.ok sc_is_size (fun vs H Q E h => len_is_size h) (fun cdv A outer s H vs Q E hr h => ⟨t_is_size K  , ?_, read_is_size vs H Q E h⟩)
  exact (pss_one (ps_ret (pe_and (pe_cmpR op_ge (pv 0) pe_int (nomark _)) (pe_one (pe_cmpR op_le (pv 0) (pe_g (by rfl) T.g_LARGEST_SIZE) (nomark _))))))
theorem ok_places {f : Addr} {fd : FuncData} (F : Fun K "places" "places" st_places f fd) (T : Txt K mg) : FnOk P w K mg base CX0 1 f fd ["m"] (sp_places K) := by
  refine F.ok sc_places (fun vs H Q E h => len_places h) (fun cdv A outer s H vs Q E hr h => ⟨t_places K  , ?_, read_places vs H Q E h⟩)
  exact (pss_cons (ps_set (i := 1) sc_places.nd rfl (Or.inl rfl) (pe_lst pa_nil))
      (pss_cons (ps_for PassesOwn.never rfl (pi_range1 (by rfl) T.n_range (pa_cons (pe_op op_add (pv 0) pe_int) pa_nil)) (pg_name (i := 2) sc_places.nd rfl (Or.inl rfl))
      (pss_one (ps_for PassesOwn.never rfl (pi_range1 (by rfl) T.n_range (pa_cons (pe_op op_sub (pe_op op_add (pv 0) pe_int) (pv 2)) pa_nil)) (pg_name (i := 3) sc_places.nd rfl (Or.inl rfl))
      (pss_one (ps_expr (pe_bm PySem.F.plainAttrs_list PySem.F.slot_list_append PySem.F.type_list_append mt_append (pv 1) (pa_cons (pe_tup (pa_cons (pv 3) (pa_cons (pv 2) (pa_cons (pe_op op_sub (pe_op op_sub (pv 0) (pv 3)) (pv 2)) pa_nil)))) pa_nil)))))))
      (pss_one (ps_ret (pv 1)))))
theorem ok_are_fair {f : Addr} {fd : FuncData} (F : Fun K "are_fair" "are_fair" st_are_fair f fd) (T : Txt K mg) (h_places : Has P w K mg base 1 "places" ["m"] (sp_places K)) : FnOk P w K mg base CX0 2 f fd ["m", "c"] (sp_are_fair K) := by
  refine F.ok sc_are_fair (fun vs H Q E h => len_are_fair h) (fun cdv A outer s H vs Q E hr h => ⟨t_are_fair K (sp_places K) , ?_, read_are_fair vs H Q E h⟩)
  exact (pss_cons (ps_set (i := 2) sc_are_fair.nd rfl (Or.inl rfl) (pe_own h_places (hr.mono (by decide)) (by rfl) (pa_cons (pv 0) pa_nil)))
      (pss_cons (ps_if (pt_cmpR op_ne (pe_callB call_len_seq (by rfl) T.n_len PySem.boot_len (pa_cons (pv 1) pa_nil)) (pe_callB call_len_seq (by rfl) T.n_len PySem.boot_len (pa_cons (pv 2) pa_nil)) (nomark _))
      (pss_one (ps_ret pe_bl))
      pss_nil)
      (pss_cons (ps_for PassesOwn.never rfl (pi_zip (by rfl) T.n_zip (pa_cons (pv 2) (pa_cons (pv 1) pa_nil))) (pg_tup rfl (pgs_cons (pg_name (i := 3) sc_are_fair.nd rfl (Or.inl rfl)) (pgs_cons (pg_name (i := 4) sc_are_fair.nd rfl (Or.inl rfl)) pgs_nil)))
      (pss_one (ps_if (PW.pt (pw_or (pt_cmpR op_ge (pv 4) (pe_g (by rfl) T.g_COLOURS) (nomark _)) (pw_or1 (pt_cmpR op_eq (pe_ix ix_tup (pv 3) (pv 4) (fun _ _ => rfl)) pe_int (nomark _)))))
      (pss_one (ps_ret pe_bl))
      pss_nil)))
      (pss_one (ps_ret pe_bl)))))
theorem ok_small_triangles {f : Addr} {fd : FuncData} (F : Fun K "small_triangles" "small_triangles" st_small_triangles f fd) (T : Txt K mg) : FnOk P w K mg base CX0 1 f fd ["m"] (sp_small_triangles K) := by
  refine F.ok sc_small_triangles (fun vs H Q E h => len_small_triangles h) (fun cdv A outer s H vs Q E hr h => ⟨t_small_triangles K  , ?_, read_small_triangles vs H Q E h⟩)
  exact (pss_cons (ps_set (i := 1) sc_small_triangles.nd rfl (Or.inl rfl) (pe_lst pa_nil))
      (pss_cons (ps_for PassesOwn.never rfl (pi_range1 (by rfl) T.n_range (pa_cons (pv 0) pa_nil)) (pg_name (i := 2) sc_small_triangles.nd rfl (Or.inl rfl))
      (pss_one (ps_for PassesOwn.never rfl (pi_range1 (by rfl) T.n_range (pa_cons (pe_op op_sub (pv 0) (pv 2)) pa_nil)) (pg_name (i := 3) sc_small_triangles.nd rfl (Or.inl rfl))
      (pss_cons (ps_expr (pe_bm PySem.F.plainAttrs_list PySem.F.slot_list_append PySem.F.type_list_append mt_append (pv 1) (pa_cons (pe_tup (pa_cons (pv 3) (pa_cons (pv 2) (pa_cons (pe_g (by rfl) T.g_UP) pa_nil)))) pa_nil)))
      (pss_one (ps_if (pt_cmpR op_lt (pe_op op_add (pv 3) (pv 2)) (pe_op op_sub (pv 0) pe_int) (nomark _))
      (pss_one (ps_expr (pe_bm PySem.F.plainAttrs_list PySem.F.slot_list_append PySem.F.type_list_append mt_append (pv 1) (pa_cons (pe_tup (pa_cons (pv 3) (pa_cons (pv 2) (pa_cons (pe_g (by rfl) T.g_DOWN) pa_nil)))) pa_nil))))
      pss_nil))))))
      (pss_one (ps_ret (pv 1)))))
theorem ok_corners_of {f : Addr} {fd : FuncData} (F : Fun K "corners_of" "corners_of" st_corners_of f fd) (T : Txt K mg) : FnOk P w K mg base CX0 1 f fd ["room"] (sp_corners_of K) := by
  refine F.ok sc_corners_of (fun vs H Q E h => len_corners_of h) (fun cdv A outer s H vs Q E hr h => ⟨t_corners_of K  , ?_, read_corners_of vs H Q E h⟩)
  exact (pss_cons (ps_set (i := 1) sc_corners_of.nd rfl (Or.inl rfl) (pe_ix ix_tup (pv 0) pe_int (fun _ _ => rfl)))
      (pss_cons (ps_set (i := 2) sc_corners_of.nd rfl (Or.inl rfl) (pe_ix ix_tup (pv 0) pe_int (fun _ _ => rfl)))
      (pss_cons (ps_if (pt_cmpR op_eq (pe_ix ix_tup (pv 0) pe_int (fun _ _ => rfl)) (pe_g (by rfl) T.g_UP) (nomark _))
      (pss_one (ps_ret (pe_lst (pa_cons (pe_tup (pa_cons (pv 1) (pa_cons (pv 2) pa_nil))) (pa_cons (pe_tup (pa_cons (pe_op op_add (pv 1) pe_int) (pa_cons (pv 2) pa_nil))) (pa_cons (pe_tup (pa_cons (pv 1) (pa_cons (pe_op op_add (pv 2) pe_int) pa_nil))) pa_nil))))))
      pss_nil)
      (pss_one (ps_ret (pe_lst (pa_cons (pe_tup (pa_cons (pe_op op_add (pv 1) pe_int) (pa_cons (pe_op op_add (pv 2) pe_int) pa_nil))) (pa_cons (pe_tup (pa_cons (pv 1) (pa_cons (pe_op op_add (pv 2) pe_int) pa_nil))) (pa_cons (pe_tup (pa_cons (pe_op op_add (pv 1) pe_int) (pa_cons (pv 2) pa_nil))) pa_nil)))))))))
theorem ok_colours_by_place {f : Addr} {fd : FuncData} (F : Fun K "colours_by_place" "colours_by_place" st_colours_by_place f fd) (T : Txt K mg) (h_places : Has P w K mg base 1 "places" ["m"] (sp_places K)) : FnOk P w K mg base CX0 2 f fd ["m", "c"] (sp_colours_by_place K) := by
  refine F.ok sc_colours_by_place (fun vs H Q E h => len_colours_by_place h) (fun cdv A outer s H vs Q E hr h => ⟨t_colours_by_place K (sp_places K) , ?_, read_colours_by_place vs H Q E h⟩)
  exact (pss_cons (ps_set (i := 2) sc_colours_by_place.nd rfl (Or.inl rfl) pe_dnewT)
      (pss_cons (ps_for PassesOwn.never rfl (pi_zip (by rfl) T.n_zip (pa_cons (pe_own h_places (hr.mono (by decide)) (by rfl) (pa_cons (pv 0) pa_nil)) (pa_cons (pv 1) pa_nil))) (pg_tup rfl (pgs_cons (pg_name (i := 3) sc_colours_by_place.nd rfl (Or.inl rfl)) (pgs_cons (pg_name (i := 4) sc_colours_by_place.nd rfl (Or.inl rfl)) pgs_nil)))
      (pss_one (ps_dput (hu_of hr) (pv 2) (pe_tup (pa_cons (pe_ix ix_tup (pv 3) pe_int (fun _ _ => rfl)) (pa_cons (pe_ix ix_tup (pv 3) pe_int (fun _ _ => rfl)) pa_nil))) (pv 4) (by rfl))))
      (pss_one (ps_ret (pv 2)))))
theorem ok_turn_of {f : Addr} {fd : FuncData} (F : Fun K "turn_of" "turn_of" st_turn_of f fd) (T : Txt K mg) : FnOk P w K mg base CX0 1 f fd ["colours"] (sp_turn_of K) := by
  refine F.ok sc_turn_of (fun vs H Q E h => len_turn_of h) (fun cdv A outer s H vs Q E hr h => ⟨t_turn_of K  , ?_, read_turn_of vs H Q E h⟩)
  exact (pss_cons (ps_set (i := 1) sc_turn_of.nd rfl (Or.inl rfl) (pe_op op_mod (pe_op op_sub (pe_ix ix_list (pv 0) pe_int (fun _ _ => rfl)) (pe_ix ix_list (pv 0) pe_int (fun _ _ => rfl))) (pe_g (by rfl) T.g_COLOURS)))
      (pss_cons (ps_if (pt_cmpR op_eq (pe_op op_mod (pe_op op_sub (pe_ix ix_list (pv 0) pe_int (fun _ _ => rfl)) (pe_ix ix_list (pv 0) pe_int (fun _ _ => rfl))) (pe_g (by rfl) T.g_COLOURS)) (pv 1) (nomark _))
      (pss_one (ps_ret (pv 1)))
      pss_nil)
      (pss_one (ps_ret pe_int))))
theorem ok_found {f : Addr} {fd : FuncData} (F : Fun K "found" "found" st_found f fd) (T : Txt K mg) (h_is_size : Has P w K mg base 1 "is_size" ["m"] (sp_is_size K)) (h_are_fair : Has P w K mg base 2 "are_fair" ["m", "c"] (sp_are_fair K)) (h_colours_by_place : Has P w K mg base 2 "colours_by_place" ["m", "c"] (sp_colours_by_place K)) (h_small_triangles : Has P w K mg base 1 "small_triangles" ["m"] (sp_small_triangles K)) (h_turn_of : Has P w K mg base 1 "turn_of" ["colours"] (sp_turn_of K)) (h_corners_of : Has P w K mg base 1 "corners_of" ["room"] (sp_corners_of K)) : FnOk P w K mg base CX0 3 f fd ["m", "c"] (sp_found K) := by
  refine F.ok sc_found (fun vs H Q E h => len_found h) (fun cdv A outer s H vs Q E hr h => ⟨t_found K (sp_is_size K) (sp_are_fair K) (sp_colours_by_place K) (sp_small_triangles K) (sp_turn_of K) (sp_corners_of K) , ?_, read_found vs H Q E h⟩)
  exact (pss_cons (ps_if (PW.pt (pw_or (pt_not (pt_val (pe_own h_is_size (hr.mono (by decide)) (by rfl) (pa_cons (pv 0) pa_nil)))) (pw_or1 (pt_not (pt_val (pe_own h_are_fair (hr.mono (by decide)) (by rfl) (pa_cons (pv 0) (pa_cons (pv 1) pa_nil))))))))
      (pss_one (ps_ret (pe_lst (pa_cons (pe_g (by rfl) T.g_REFUSED_INPUT) pa_nil))))
      pss_nil)
      (pss_cons (ps_set (i := 2) sc_found.nd rfl (Or.inr rfl) (pe_own h_colours_by_place (hr.mono (by decide)) (by rfl) (pa_cons (pv 0) (pa_cons (pv 1) pa_nil))))
      (pss_cons (ps_set (i := 3) sc_found.nd rfl (Or.inl rfl) (pe_lst pa_nil))
      (pss_cons (ps_set (i := 4) sc_found.nd rfl (Or.inl rfl) pe_int)
      (pss_cons (ps_for PassesOwn.never rfl (pi_enum (by rfl) T.n_enumerate (pa_cons (pe_own h_small_triangles (hr.mono (by decide)) (by rfl) (pa_cons (pv 0) pa_nil)) pa_nil)) (pg_tup rfl (pgs_cons (pg_name (i := 5) sc_found.nd rfl (Or.inl rfl)) (pgs_cons (pg_name (i := 6) sc_found.nd rfl (Or.inl rfl)) pgs_nil)))
      (pss_cons (ps_set (i := 7) sc_found.nd rfl (Or.inl rfl) (pe_own h_turn_of (hr.mono (by decide)) (by rfl) (pa_cons (pe_lc (own := [("place", 8)]) (g := gName 8) (tt := tYes) (by rfl) sc_found.nd (pi_list (pe_own h_corners_of (hr.mono (by decide)) (by rfl) (pa_cons (pv 6) pa_nil))) (blkOk_by (own := [("place", 8)]) (N := ["m", "c", "by_place", "told", "count", "number", "room", "turn", "place"]) (sc := defScope st_found) (by decide +kernel)) (fun _ _ _ _ _ => pg_name (i := 8) sc_found.nd rfl (Or.inl rfl)) (fun _ _ _ _ _ => pts_nil) (fun _ _ _ _ _ => (pe_dget (hu_of hr) (pv 2) (pv 8) (fun _ _ => rfl)))) pa_nil)))
      (pss_one (ps_if (pt_cmpR op_gt (pv 7) pe_int (nomark _))
      (pss_cons (ps_expr (pe_bm PySem.F.plainAttrs_list PySem.F.slot_list_extend PySem.F.type_list_extend mt_extend (pv 3) (pa_cons (pe_lst (pa_cons (pv 5) (pa_cons (pv 7) pa_nil))) pa_nil)))
      (pss_one (ps_aug (i := 4) sc_found.nd rfl (Or.inl rfl) pe_int ip_add)))
      pss_nil))))
      (pss_one (ps_ret (pe_op op_cat (pe_lst (pa_cons (pv 4) pa_nil)) (pv 3)))))))))
end
end Tri

/-! ### The end (printed by tools/gen.py) -/
namespace Tri
open PySem PySem.Spec PyProof.Rows L2 Evl
theorem all_mk {P : Program} {w : World} {K : PySem.W.Frag} {h : Heap} {mg : Str → Option Value} {fa f1 f2 f3 f4 f5 f6 f7 f8 : Addr} (X : K.In h) (G : h.Ns mainGlobals mg) (hfa : mg "found" = some (.ref fa))
    {od1 an1 od2 an2 od3 an3 od4 an4 od5 an5 od6 an6 od7 an7 od8 an8 : Option Addr} {sl1 sl2 sl3 sl4 sl5 sl6 sl7 sl8 : Array (Option Value)} {oc1 kV1 dc1 pm1 cd1 ct1 oc2 kV2 dc2 pm2 cd2 ct2 oc3 kV3 dc3 pm3 cd3 ct3 oc4 kV4 dc4 pm4 cd4 ct4 oc5 kV5 dc5 pm5 cd5 ct5 oc6 kV6 dc6 pm6 cd6 ct6 oc7 kV7 dc7 pm7 cd7 ct7 oc8 kV8 dc8 pm8 cd8 ct8 : Value} {tk0 tk1 tk2 tk3 tk4 : Tok}
    (a1 : PySem.W.nsIn K mainGlobals "is_size" = some (some (.ref f1))) (l1 : K.lookup f1 = some ⟨oc1, od1, .func (PySem.W.fnOf "is_size" "is_size" (defArgs st_is_size) (defBody st_is_size) (defScope st_is_size) .none kV1 dc1 pm1 an1 cd1 ct1), sl1⟩) (c1 : PySem.W.codeIn K cd1 "is_size" = true) (k1 : PySem.W.keepIn K (.ref f1) = true)
    (a2 : PySem.W.nsIn K mainGlobals "places" = some (some (.ref f2))) (l2 : K.lookup f2 = some ⟨oc2, od2, .func (PySem.W.fnOf "places" "places" (defArgs st_places) (defBody st_places) (defScope st_places) .none kV2 dc2 pm2 an2 cd2 ct2), sl2⟩) (c2 : PySem.W.codeIn K cd2 "places" = true) (k2 : PySem.W.keepIn K (.ref f2) = true)
    (a3 : PySem.W.nsIn K mainGlobals "are_fair" = some (some (.ref f3))) (l3 : K.lookup f3 = some ⟨oc3, od3, .func (PySem.W.fnOf "are_fair" "are_fair" (defArgs st_are_fair) (defBody st_are_fair) (defScope st_are_fair) .none kV3 dc3 pm3 an3 cd3 ct3), sl3⟩) (c3 : PySem.W.codeIn K cd3 "are_fair" = true) (k3 : PySem.W.keepIn K (.ref f3) = true)
    (a4 : PySem.W.nsIn K mainGlobals "small_triangles" = some (some (.ref f4))) (l4 : K.lookup f4 = some ⟨oc4, od4, .func (PySem.W.fnOf "small_triangles" "small_triangles" (defArgs st_small_triangles) (defBody st_small_triangles) (defScope st_small_triangles) .none kV4 dc4 pm4 an4 cd4 ct4), sl4⟩) (c4 : PySem.W.codeIn K cd4 "small_triangles" = true) (k4 : PySem.W.keepIn K (.ref f4) = true)
    (a5 : PySem.W.nsIn K mainGlobals "corners_of" = some (some (.ref f5))) (l5 : K.lookup f5 = some ⟨oc5, od5, .func (PySem.W.fnOf "corners_of" "corners_of" (defArgs st_corners_of) (defBody st_corners_of) (defScope st_corners_of) .none kV5 dc5 pm5 an5 cd5 ct5), sl5⟩) (c5 : PySem.W.codeIn K cd5 "corners_of" = true) (k5 : PySem.W.keepIn K (.ref f5) = true)
    (a6 : PySem.W.nsIn K mainGlobals "colours_by_place" = some (some (.ref f6))) (l6 : K.lookup f6 = some ⟨oc6, od6, .func (PySem.W.fnOf "colours_by_place" "colours_by_place" (defArgs st_colours_by_place) (defBody st_colours_by_place) (defScope st_colours_by_place) .none kV6 dc6 pm6 an6 cd6 ct6), sl6⟩) (c6 : PySem.W.codeIn K cd6 "colours_by_place" = true) (k6 : PySem.W.keepIn K (.ref f6) = true)
    (a7 : PySem.W.nsIn K mainGlobals "turn_of" = some (some (.ref f7))) (l7 : K.lookup f7 = some ⟨oc7, od7, .func (PySem.W.fnOf "turn_of" "turn_of" (defArgs st_turn_of) (defBody st_turn_of) (defScope st_turn_of) .none kV7 dc7 pm7 an7 cd7 ct7), sl7⟩) (c7 : PySem.W.codeIn K cd7 "turn_of" = true) (k7 : PySem.W.keepIn K (.ref f7) = true)
    (a8 : PySem.W.nsIn K mainGlobals "found" = some (some (.ref f8))) (l8 : K.lookup f8 = some ⟨oc8, od8, .func (PySem.W.fnOf "found" "found" (defArgs st_found) (defBody st_found) (defScope st_found) .none kV8 dc8 pm8 an8 cd8 ct8), sl8⟩) (c8 : PySem.W.codeIn K cd8 "found" = true) (k8 : PySem.W.keepIn K (.ref f8) = true)
    (u0 : PySem.W.nsIn K mainGlobals "COLOURS" = some (some (.int (3) tk0)))
    (u1 : PySem.W.nsIn K mainGlobals "DOWN" = some (some (.int (0) tk1)))
    (u2 : PySem.W.nsIn K mainGlobals "LARGEST_SIZE" = some (some (.int (9) tk2)))
    (u3 : PySem.W.nsIn K mainGlobals "REFUSED_INPUT" = some (some (.int (-22) tk3)))
    (u4 : PySem.W.nsIn K mainGlobals "UP" = some (some (.int (1) tk4)))
    (z0 : PySem.W.nsIn K mainGlobals "enumerate" = some none)
    (z1 : PySem.W.nsIn K mainGlobals "len" = some none)
    (z2 : PySem.W.nsIn K mainGlobals "range" = some none)
    (z3 : PySem.W.nsIn K mainGlobals "zip" = some none)
    : ∃ fd : FuncData, (∀ (s : Shared) (us : List Value), us.length = (["m", "c"] : List Str).length → BindsTo s fd ⟨us, []⟩ ((["m", "c"] : List Str).zip us)) ∧ ∀ base : Heap, K.In base → base.Ns mainGlobals mg → FnOk P w K mg base CX0 3 fa fd ["m", "c"] (sp_found K) := by
  have e := hfa.symm.trans (PySem.W.mg_of X G a8)
  cases e
  have T : Txt K mg := ⟨⟨_, PySem.W.mg_of X G u0, ⟨_, rfl⟩⟩, ⟨_, PySem.W.mg_of X G u1, ⟨_, rfl⟩⟩, ⟨_, PySem.W.mg_of X G u2, ⟨_, rfl⟩⟩, ⟨_, PySem.W.mg_of X G u3, ⟨_, rfl⟩⟩, ⟨_, PySem.W.mg_of X G u4, ⟨_, rfl⟩⟩, PySem.W.mg_none_of X G z0, PySem.W.mg_none_of X G z1, PySem.W.mg_none_of X G z2, PySem.W.mg_none_of X G z3⟩
  have F1 := fun_mk (st := st_is_size) l1 c1 k1
  have b1 := F1.binds (ps := ["m"]) fun _ _ _ _ _ _ us hl => match us, hl with | [_], _ => rfl
  have F2 := fun_mk (st := st_places) l2 c2 k2
  have b2 := F2.binds (ps := ["m"]) fun _ _ _ _ _ _ us hl => match us, hl with | [_], _ => rfl
  have F3 := fun_mk (st := st_are_fair) l3 c3 k3
  have b3 := F3.binds (ps := ["m", "c"]) fun _ _ _ _ _ _ us hl => match us, hl with | [_, _], _ => rfl
  have F4 := fun_mk (st := st_small_triangles) l4 c4 k4
  have b4 := F4.binds (ps := ["m"]) fun _ _ _ _ _ _ us hl => match us, hl with | [_], _ => rfl
  have F5 := fun_mk (st := st_corners_of) l5 c5 k5
  have b5 := F5.binds (ps := ["room"]) fun _ _ _ _ _ _ us hl => match us, hl with | [_], _ => rfl
  have F6 := fun_mk (st := st_colours_by_place) l6 c6 k6
  have b6 := F6.binds (ps := ["m", "c"]) fun _ _ _ _ _ _ us hl => match us, hl with | [_, _], _ => rfl
  have F7 := fun_mk (st := st_turn_of) l7 c7 k7
  have b7 := F7.binds (ps := ["colours"]) fun _ _ _ _ _ _ us hl => match us, hl with | [_], _ => rfl
  have F8 := fun_mk (st := st_found) l8 c8 k8
  refine ⟨PySem.W.fnOf "found" "found" (defArgs st_found) (defBody st_found) (defScope st_found) .none kV8 dc8 pm8 an8 cd8 ct8, fun s us hu => match us, hu with | [_, _], _ => .of_eq rfl, fun base _ _ => ?_⟩
  have h_is_size : Has P w K mg base 1 "is_size" ["m"] (sp_is_size K) := ⟨_, _, PySem.W.mg_of X G a1, ok_is_size F1 T, k1, b1⟩
  have h_places : Has P w K mg base 1 "places" ["m"] (sp_places K) := ⟨_, _, PySem.W.mg_of X G a2, ok_places F2 T, k2, b2⟩
  have h_are_fair : Has P w K mg base 2 "are_fair" ["m", "c"] (sp_are_fair K) := ⟨_, _, PySem.W.mg_of X G a3, ok_are_fair F3 T h_places, k3, b3⟩
  have h_small_triangles : Has P w K mg base 1 "small_triangles" ["m"] (sp_small_triangles K) := ⟨_, _, PySem.W.mg_of X G a4, ok_small_triangles F4 T, k4, b4⟩
  have h_corners_of : Has P w K mg base 1 "corners_of" ["room"] (sp_corners_of K) := ⟨_, _, PySem.W.mg_of X G a5, ok_corners_of F5 T, k5, b5⟩
  have h_colours_by_place : Has P w K mg base 2 "colours_by_place" ["m", "c"] (sp_colours_by_place K) := ⟨_, _, PySem.W.mg_of X G a6, ok_colours_by_place F6 T h_places, k6, b6⟩
  have h_turn_of : Has P w K mg base 1 "turn_of" ["colours"] (sp_turn_of K) := ⟨_, _, PySem.W.mg_of X G a7, ok_turn_of F7 T, k7, b7⟩
  exact ok_found F8 T h_is_size h_are_fair h_colours_by_place h_small_triangles h_turn_of h_corners_of
end Tri
open PySem PySem.W PyProof.Rows
set_option maxRecDepth 100000 in
set_option maxHeartbeats 8000000 in
theorem PySem.Challenge.cw_threecolours_s03_found_holds : PySem.Challenge.rw_threecolours_s03_found.Holds := by
  w_on; k_headS; (case hw => exact ⟨[.int 0, .list []], by decide +kernel, by decide +kernel⟩)
  k_fillS
  refine L2.walk_specK (r := PySem.Challenge.rw_threecolours_s03_found) (k := 3) (CX := L2.CX0) (ps := ["m", "c"]) (sp := Tri.sp_found) (by decide +kernel) rfl rfl ⟨rfl, by decide, by decide⟩ (fun w h Y => PySem.W.kIn_of Y) ?F ?S (fun _ _ _ _ z => z)
  case F =>
    intro w mg fa h Y KX G hmg
    refine' Tri.all_mk KX G hmg ?a1 ?l1 ?c1 ?k1 ?a2 ?l2 ?c2 ?k2 ?a3 ?l3 ?c3 ?k3 ?a4 ?l4 ?c4 ?k4 ?a5 ?l5 ?c5 ?k5 ?a6 ?l6 ?c6 ?k6 ?a7 ?l7 ?c7 ?k7 ?a8 ?l8 ?c8 ?k8 ?u0 ?u1 ?u2 ?u3 ?u4 ?z0 ?z1 ?z2 ?z3
    (case a1 => k_is)
    (case l1 => k_is)
    (case c1 => k_is)
    (case k1 => k_is)
    (case a2 => k_is)
    (case l2 => k_is)
    (case c2 => k_is)
    (case k2 => k_is)
    (case a3 => k_is)
    (case l3 => k_is)
    (case c3 => k_is)
    (case k3 => k_is)
    (case a4 => k_is)
    (case l4 => k_is)
    (case c4 => k_is)
    (case k4 => k_is)
    (case a5 => k_is)
    (case l5 => k_is)
    (case c5 => k_is)
    (case k5 => k_is)
    (case a6 => k_is)
    (case l6 => k_is)
    (case c6 => k_is)
    (case k6 => k_is)
    (case a7 => k_is)
    (case l7 => k_is)
    (case c7 => k_is)
    (case k7 => k_is)
    (case a8 => k_is)
    (case l8 => k_is)
    (case c8 => k_is)
    (case k8 => k_is)
    (case u0 => k_is)
    (case u1 => k_is)
    (case u2 => k_is)
    (case u3 => k_is)
    (case u4 => k_is)
    (case z0 => k_is)
    (case z1 => k_is)
    (case z2 => k_is)
    (case z3 => k_is)
  case S =>
    intro K H xs a hO hwi hask hx
    exact Tri.asked K H xs a hwi hx
#print axioms PySem.Challenge.cw_threecolours_s03_found_holds

