import PyProof.Rows.All
import Wide.All
import OpenK.AllK
import Wide.FinOn
import Open.SpecLaws
import KE.OsGo
import HandS.ForSpec
import HandS.Evl
import HandS.Iter
import HandS.Zip
import HandS.Walk
import HandS.Dict
import KE.KDictKeyed
import PyKzs2
import PySem.Challenge.RW_threecolours_s08_corners
set_option Elab.async false
set_option maxRecDepth 100000
set_option maxHeartbeats 2000000
/-! ### A. A list's extend by a tuple; tuples that stand at addresses -/
namespace Tri
open PySem PySem.Spec PyProof.Rows L2
section
open PySem.AutoSeq1
theorem ext_tup (l b : Addr) (us : Array Value) (n : Nat) (ws : Array Value) (k : Nat) (dd : Option Addr) (sl : Array (Option Value))
    (h0 : ¬ (!us.isEmpty && Builtin.List.listTooLong (us.size + ws.size)) = true) (h1 : us.size ≤ sizeLine) (h2 : us.size + ws.size ≤ sizeLine + 1) :
    Meets (Builtin.«list.extend» ⟨[.ref l, .ref b], []⟩) (fun _ R s =>
      s.heap.get? l = some { cls := .type "list", dict := none, data := .seq us n, slots := #[] } ∧
      s.heap.get? b = some { cls := .type "tuple", dict := dd, data := .seq ws k, slots := sl } ∧
      R (.ok (.ret Value.none)) { s with heap := s.heap.update l (Obj.mapSeq fun x => x ++ ws), toks := s.toks }) :=
  Meets.of_wp fun _ _ _ R S hS => by
    obtain ⟨S1, S2, S3, S4, S5⟩ := S
    obtain ⟨atl, atb, fin⟩ := hS
    have u1 := AutoSeq1.idx_int
    have u2 := AutoSeq1.sub_tuple_tuple
    have u3 := AutoSeq1.sub_list_list
    have u4 := AutoSeq1.sub_tuple_list
    have u5 := AutoSeq1.sub_list_tuple
    have room : (us ++ ws).size ≤ sizeLine + 1 := by
      rw [Array.size_append]
      exact h2
    wp_walk using (wpAny_updateSeq atl rfl (hz := h1) (_hz' := room)), wpAny_loadPart' atl, wpAny_loadPart' atb
    exact ⟨_, rfl, fin⟩
end
def rExtT (K : PySem.W.Frag) : V → List V → Hp → VK → Prop := fun x vs H Q => ∃ l b us ws, x = .ref l ∧ vs = [.ref b] ∧
  H l = some (.lst us) ∧ SqT K H b ws ∧ us.length + ws.length ≤ sizeLine ∧ Q .non (upd H l (.lst (us ++ ws)))
theorem mt_extT {X : Cx} : MtM X "list.extend" (rExtT X.K) := by
  intro ps S st Hp0 xv args xval vals Qk inv rel rels told
  obtain ⟨l, b, old, more, rfl, rfl, atL, atB, short, fin⟩ := told
  cases rel
  obtain ⟨arg, rfl, relA⟩ := rels.one
  cases relA
  obtain ⟨z, ia, n, rOld, hl, objL⟩ := inv.lstM atL
  obtain ⟨ib, rMore, ⟨⟨oc, od, oda, osl⟩, objB, ec, k, ed⟩, _⟩ := inv.tuple atB
  cases ec
  cases ed
  have lenB := rMore.length
  have both : ia.toArray.size + ib.toArray.size ≤ sizeLine := by
    simp only [List.size_toArray]
    omega
  have notLong : ¬ (!ia.toArray.isEmpty && Builtin.List.listTooLong (ia.toArray.size + ib.toArray.size)) = true := by
    intro bad
    rw [notLongL both, Bool.and_false] at bad
    cases bad
  have small : ia.toArray.size ≤ sizeLine := by omega
  refine call_meets F.slot_list_extend ⟨_, objL, rfl⟩ F.entry_list_extend (F.args_list_extend_2 ..)
    (ext_tup l b ia.toArray n ib.toArray k od osl notLong small (by omega)) ⟨objL, objB, .non, _, inv.lset (its' := ia ++ ib) atL objL (by simp) (rOld.append rMore) ?_, rfl, fin⟩
  simp only [List.length_append]
  omega
end Tri

/-! ### B. Short words: operations, a def that may be called, a module's number; lists of tuples -/
namespace Tri
open PySem PySem.Spec PyProof.Rows L2 Evl
abbrev rAddI : R2 := rI0 fun i j => .int (i + j)
abbrev rSubI : R2 := rI0 fun i j => .int (i - j)
abbrev rLtI : R2 := rI0 fun i j => .bl (decide (i < j))
abbrev rLeI : R2 := rI0 fun i j => .bl (decide (i ≤ j))
abbrev rGtI : R2 := rI0 fun i j => .bl (decide (j < i))
abbrev rGeI : R2 := rI0 fun i j => .bl (decide (j ≤ i))
/-- a def that stands under a name, keeps a promise, and takes its arguments by place -/
def Has (P : Program) (w : World) (K : PySem.W.Frag) (mg : Str → Option Value) (base : Heap) (k : Nat) (x : Str) (ps : List Str) (sp : Sp) : Prop :=
  ∃ f fd, mg x = some (.ref f) ∧ FnOk P w K mg base CX0 k f fd ps sp ∧ PySem.W.keepIn K (.ref f) = true ∧ Binds K fd ps []
section
variable {X : Cx}
theorem pe_g {x : Str} {v : V} {pos : Pos} (hg : Gl X x) (h : ∃ u, X.mg x = some u ∧ RelV v u) (hd : (x == ("__debug__" : Str)) = false := by decide) : PE X (.Name x pos) (tC v) :=
  let ⟨_, a, b⟩ := h
  pe_glob hg a b hd
theorem pe_own {k : Nat} {x : Str} {ps : List Str} {sp : Sp} {e : Expr} {es : List Expr} {t : TA} {p pos : Pos} (h : Has X.prog X.w X.K X.mg X.base k x ps sp) (hr : Room k X.A) (hg : Gl X x) (ha : PA X (e :: es) t)
    (hst : starEach (e :: es) X.env = (false, eval e X.env) :: starEach es X.env := by rfl) (hpl : (backTo pos (starEach es X.env)).any (·.1) = false := by rfl) (hdb : (x == ("__debug__" : Str)) = false := by decide) :
    PE X (.Call (.Name x p) (e :: es) [] pos) (tCall sp [] E0 t) := by
  obtain ⟨f, fd, g, F, kp, b⟩ := h
  exact pe_call F hr hg g kp b .nil pass0 ha (hdb := hdb) (he := hst) (hpl := hpl)
end
/-- tuples that stand at addresses -/
def Held (H : Hp) : List Addr → List (List V) → Prop
  | [], [] => True
  | a :: as, x :: xs => H a = some (.tup x) ∧ Held H as xs
  | _, _ => False
theorem Held.ex {H H' : Hp} (e : Ex H H') : ∀ {as : List Addr} {xs : List (List V)}, Held H as xs → Held H' as xs
  | [], [], _ => trivial
  | a :: _, _ :: _, h => ⟨e a _ h.1, Held.ex e h.2⟩
  | [], _ :: _, h => h.elim
  | _ :: _, [], h => h.elim
theorem Held.put {H : Hp} {l : Addr} {o n : List V} (hl : H l = some (.lst o)) : ∀ {as : List Addr} {xs : List (List V)}, Held H as xs → Held (upd H l (.lst n)) as xs
  | [], [], _ => trivial
  | a :: _, _ :: _, h => ⟨by
      have h1 := h.1
      rw [upd_ne (fun z => by
        rw [z, hl] at h1
        cases h1)]
      exact h1, Held.put hl h.2⟩
  | [], _ :: _, h => h.elim
  | _ :: _, [], h => h.elim
theorem Held.snoc {H : Hp} {a : Addr} {x : List V} (ha : H a = some (.tup x)) : ∀ {as : List Addr} {xs : List (List V)}, Held H as xs → Held H (as ++ [a]) (xs ++ [x])
  | [], [], _ => ⟨ha, trivial⟩
  | _ :: _, _ :: _, h => ⟨h.1, Held.snoc ha h.2⟩
  | [], _ :: _, h => h.elim
  | _ :: _, [], h => h.elim
theorem Held.len {H : Hp} : ∀ {as : List Addr} {xs : List (List V)}, Held H as xs → as.length = xs.length
  | [], [], _ => rfl
  | _ :: _, _ :: _, h => congrArg (· + 1) (Held.len h.2)
  | [], _ :: _, h => h.elim
  | _ :: _, [], h => h.elim
theorem Held.get {H : Hp} : ∀ {as : List Addr} {xs : List (List V)} {i : Nat} {v : V}, Held H as xs → (as.map V.ref)[i]? = some v → ∃ a x, v = .ref a ∧ xs[i]? = some x ∧ H a = some (.tup x)
  | [], [], _, _, _, h => by simp at h
  | a :: _, x :: _, 0, _, hd, h => ⟨a, x, (Option.some.inj h).symm, rfl, hd.1⟩
  | _ :: as, _ :: xs, i + 1, _, hd, h => Held.get (as := as) (xs := xs) (i := i) hd.2 h
  | [], _ :: _, _, _, h, _ => h.elim
  | _ :: _, [], _, _, h, _ => h.elim
/-- a new list of new tuples, over the heap H0 -/
def Grown (H0 H : Hp) (p : Addr) (xs : List (List V)) : Prop := H0 p = none ∧ Ex H0 H ∧ ∃ as : List Addr, H p = some (.lst (as.map V.ref)) ∧ Held H as xs
theorem Grown.ex {H0 H H' : Hp} {p : Addr} {xs : List (List V)} (g : Grown H0 H p xs) (e : Ex H H') : Grown H0 H' p xs :=
  let ⟨a, b, as, c, d⟩ := g
  ⟨a, b.trans e, as, e _ _ c, d.ex e⟩
theorem Grown.start {H0 H : Hp} {p : Addr} (h : H0 p = none) (e : Ex H0 H) (hp : H p = some (.lst [])) : Grown H0 H p [] := ⟨h, e, [], hp, trivial⟩
theorem Grown.is {H0 H : Hp} {p : Addr} {xs ys : List (List V)} (g : Grown H0 H p xs) (e : xs = ys) : Grown H0 H p ys := e ▸ g
def RetH (xs : List (List V)) (H : Hp) (Q : VK) : Prop := ∀ p H2, Grown H H2 p xs → Q (.ref p) H2
section
variable {K : PySem.W.Frag} {σ : L2.St} {H H0 : Hp} {ta te : TE} {D : Ends} {tz : TS} {v : V}
theorem s_push {p : Addr} {xs : List (List V)} {x : List V} (g : Grown H0 H p xs) (ha : Ev ta σ H (.ref p)) (h : EvU te σ H x) (hz : xs.length < 100000) (k : ∀ H1, Grown H0 H1 p (xs ++ [x]) → D.nx σ H1) :
    tDrop (tBM K "list" rAppend ta (tCons te tNil)) D σ H := by
  obtain ⟨g1, g2, as, g3, g4⟩ := g
  refine s_appU g3 ha h (by rw [List.length_map, g4.len]; exact hz) fun q H1 hq e1 h1 => k _ ⟨g1, Ex.mut (g2.trans e1) g1, as ++ [q], ?_, ?_⟩
  · rw [upd_same, List.map_append]
    rfl
  · exact ((g4.ex e1).snoc h1).put (e1 _ _ g3)
theorem q_push {p : Addr} {xs : List (List V)} {x : List V} (g : Grown H0 H p xs) (ha : Ev ta σ H (.ref p)) (h : EvU te σ H x) (hz : xs.length < 100000) (k : ∀ H1, Grown H0 H1 p (xs ++ [x]) → tz D σ H1) :
    tSeq (tDrop (tBM K "list" rAppend ta (tCons te tNil))) tz D σ H := s_push (D := { D with nx := tz D }) g ha h hz k
theorem s_extT {l b : Addr} {us ws : List V} (hl : H l = some (.lst us)) (ha : Ev ta σ H (.ref l)) (h : Ev te σ H (.ref b)) (hb : SqT K H b ws) (hz : us.length + ws.length ≤ 100000) (k : ∀ H1, Ex H H1 → D.nx σ (upd H1 l (.lst (us ++ ws)))) :
    tDrop (tBM K "list" (rExtT K) ta (tCons te tNil)) D σ H := ha H (Ex.refl H) _ fun H1 e1 =>
  ⟨Or.inl ⟨rfl, us, sq_of (e1 l _ hl)⟩, h H1 e1 _ fun H2 e2 => ⟨l, b, us, ws, rfl, rfl, e2 l _ (e1 l _ hl), ex_t (e1.trans e2) hb, sz_of hz, k H2 (e1.trans e2)⟩⟩
/-- x = f(..) by f's promise -/
theorem q_asgC {sp : Sp} {E : XK} {t : TA} {i : Nat} {vs : List V} (h : EvA t σ H vs) (hs : ∀ H1, Ex H H1 → sp (vs ++ []) H1 (fun v H2 => tz D (σ.set i (some v)) H2) E) :
    tSeq (tAsg (tCall sp [] E t) (gName i)) tz D σ H := h H (Ex.refl H) _ hs
end
end Tri

/-! ### C. Rooms: the specification's list, row by row -/
namespace Tri
theorem flat_succ {α : Type} (f : Nat → List α) (n : Nat) : (List.range (n + 1)).flatMap f = (List.range n).flatMap f ++ f n := by
  rw [List.range_succ, List.flatMap_append, List.flatMap_cons, List.flatMap_nil, List.append_nil]
theorem flat_len {α : Type} (f : Nat → List α) (c : Nat) (h : ∀ i, (f i).length ≤ c) : ∀ n, ((List.range n).flatMap f).length ≤ c * n
  | 0 => Nat.zero_le _
  | n + 1 => by
    have a := flat_len f c h n
    have b := h n
    rw [flat_succ, List.length_append, Nat.mul_succ]
    omega
def cell (m j i : Nat) : List Kzs2.Room := if i + j + 2 ≤ m then [⟨i, j, true⟩, ⟨i, j, false⟩] else [⟨i, j, true⟩]
def rowTo (m j n : Nat) : List Kzs2.Room := (List.range n).flatMap (cell m j)
def upTo (m n : Nat) : List Kzs2.Room := (List.range n).flatMap fun j => rowTo m j (m - j)
theorem rooms_upTo (m : Nat) : Kzs2.rooms m = upTo m m := rfl
theorem cell_len (m j i : Nat) : (cell m j i).length ≤ 2 := by
  unfold cell
  split <;> simp
theorem rowTo_len (m j n : Nat) : (rowTo m j n).length ≤ 2 * n := flat_len _ 2 (cell_len m j) n
theorem upTo_len (m n : Nat) : (upTo m n).length ≤ (2 * m) * n := flat_len _ (2 * m) (fun j => Nat.le_trans (rowTo_len m j _) (by omega)) n
theorem rowTo_succ (m j n : Nat) : rowTo m j (n + 1) = rowTo m j n ++ cell m j n := flat_succ _ n
theorem upTo_succ (m n : Nat) : upTo m (n + 1) = upTo m n ++ rowTo m n (m - n) := flat_succ _ n
theorem f_rooms_no (m : Int) (h : ¬ (1 ≤ m ∧ m ≤ 9)) : PyKzs2.rooms m = [-22] := by
  show (Kzs2.answer (.rooms m.toNat)).value :: (Kzs2.answer (.rooms m.toNat)).nums = [-22]
  have e : Kzs2.answer (.rooms m.toNat) = Kzs1.say (-22) := if_pos (by unfold Kzs2.most; omega)
  rw [e]
  rfl
theorem f_rooms (n : Nat) (h : 1 ≤ n ∧ n ≤ 9) : PyKzs2.rooms (n : Int) = ((Kzs2.rooms n).length : Int) :: (Kzs2.rooms n).flatMap fun r => [(r.i : Int), (r.j : Int), if r.u then 1 else 0] := by
  show (Kzs2.answer (.rooms n)).value :: (Kzs2.answer (.rooms n)).nums = _
  have e : Kzs2.answer (.rooms n) = ⟨((Kzs2.rooms n).length : Nat), (Kzs2.rooms n).flatMap fun r => [(r.i : Int), (r.j : Int), if r.u then 1 else 0]⟩ := if_neg (by unfold Kzs2.most; omega)
  rw [e]
end Tri

/-! ### F. Places and fair colours -/
namespace Tri
def prow (j n : Nat) : List Kzs2.Place := (List.range n).map fun i => ⟨i, j⟩
def pup (m n : Nat) : List Kzs2.Place := (List.range n).flatMap fun j => prow j (m + 1 - j)
theorem places_pup (m : Nat) : Kzs2.places m = pup m (m + 1) := rfl
theorem prow_succ (j n : Nat) : prow j (n + 1) = prow j n ++ [⟨n, j⟩] := by
  unfold prow
  rw [List.range_succ, List.map_append]
  rfl
theorem pup_succ (m n : Nat) : pup m (n + 1) = pup m n ++ prow n (m + 1 - n) := flat_succ _ n
theorem prow_len (j n : Nat) : (prow j n).length = n := by
  unfold prow
  rw [List.length_map, List.length_range]
theorem pup_len (m n : Nat) : (pup m n).length ≤ (m + 1) * n := flat_len _ (m + 1) (fun j => by rw [prow_len]; omega) n
theorem noOf_all : ∀ m : Nat, m < 10 → (Kzs2.places m).map (Kzs2.noOf m) = List.range (Kzs2.places m).length := by decide +kernel
theorem noOf_at {m i : Nat} {p : Kzs2.Place} (hm : m ≤ 9) (h : (Kzs2.places m)[i]? = some p) : Kzs2.noOf m p = i := by
  have e := congrArg (fun l => l[i]?) (noOf_all m (by omega))
  have hi : i < (Kzs2.places m).length := (List.getElem?_eq_some_iff.mp h).1
  simp only [List.getElem?_map, h, List.getElem?_range hi] at e
  exact Option.some.inj e
theorem within_all : ∀ m : Nat, m < 10 → (Kzs2.places m).all (fun p => decide (p.i + p.j ≤ m)) = true := by decide +kernel
theorem within_at {m i : Nat} {p : Kzs2.Place} (hm : m ≤ 9) (h : (Kzs2.places m)[i]? = some p) : p.i + p.j ≤ m :=
  of_decide_eq_true (List.all_eq_true.mp (within_all m (by omega)) p (List.mem_of_getElem? h))
theorem getD_at {l : List Nat} {i x d : Nat} (h : l[i]? = some x) : l.getD i d = x := by
  rw [List.getD_eq_getElem?_getD, h]
  rfl
theorem fair_iff {m : Nat} {c : List Nat} (hm : m ≤ 9) : Kzs2.fair m c = true ↔ c.length = (Kzs2.places m).length ∧ ∀ (i : Nat) (p : Kzs2.Place) (x : Nat), (Kzs2.places m)[i]? = some p → c[i]? = some x → x ≤ 2 ∧ Kzs2.number m p x ≠ 0 := by
  unfold Kzs2.fair
  rw [Bool.and_eq_true, beq_iff_eq, List.all_eq_true]
  refine and_congr_right fun hl => ⟨fun h i p x hp hx => ?_, fun h p hp => ?_⟩
  · have q := h p (List.mem_of_getElem? hp)
    rw [noOf_at hm hp, getD_at hx, getD_at hx, Bool.and_eq_true, decide_eq_true_eq, bne_iff_ne] at q
    exact q
  · obtain ⟨i, hi⟩ := List.mem_iff_getElem?.mp hp
    have hlt : i < c.length := by
      rw [hl]
      exact (List.getElem?_eq_some_iff.mp hi).1
    have hx : c[i]? = some c[i] := List.getElem?_eq_getElem hlt
    have q := h i p _ hi hx
    rw [noOf_at hm hi, getD_at hx, getD_at hx, Bool.and_eq_true, decide_eq_true_eq, bne_iff_ne]
    exact q
theorem f_fair_no (m : Int) (c : List Int) (h : ¬ (1 ≤ m ∧ m ≤ 9)) : PyKzs2.fair m c = [-22] := by
  show (Kzs2.answer (.fair m.toNat (Kzs2Neutral.natsOf c))).value :: (Kzs2.answer (.fair m.toNat (Kzs2Neutral.natsOf c))).nums = [-22]
  have e : Kzs2.answer (.fair m.toNat (Kzs2Neutral.natsOf c)) = Kzs1.say (-22) := if_pos (by unfold Kzs2.most; omega)
  rw [e]
  rfl
theorem f_fair (n : Nat) (c : List Int) (h : 1 ≤ n ∧ n ≤ 9) : PyKzs2.fair (n : Int) c = [if Kzs2.fair n (c.map Int.toNat) = true then 1 else 0] := by
  show (Kzs2.answer (.fair n (Kzs2Neutral.natsOf c))).value :: (Kzs2.answer (.fair n (Kzs2Neutral.natsOf c))).nums = _
  have e : Kzs2.answer (.fair n (Kzs2Neutral.natsOf c)) = Kzs1.say (if Kzs2.fair n (Kzs2Neutral.natsOf c) then 1 else 0) := if_neg (by unfold Kzs2.most; omega)
  rw [e]
  rfl
end Tri

/-! ### G. Loops over what a def gives back; lists of new tuples; dicts by pairs -/
namespace Tri
open PySem PySem.Spec PyProof.Rows L2 Evl
abbrev rModI : R2 := rI (fun _ j => 0 < j) fun i j => .int (i % j)
/-- a walk that is there already -/
def iJ (J : It) : TI := fun _ H R => R J H
section
variable {K : PySem.W.Frag} {σ : L2.St} {H : Hp} {D : Ends} {tu tz : TS} {g : TG} {te ta tb td ty tv : TE} {v x y z : V}
theorem enum_go {a : Addr} {xs : List V} {p q : Nat} (Pv : Nat → L2.St → Hp → Prop) (h0 : Pv 0 σ H) (hq : ∀ i σ' H', i ≤ xs.length → Pv i σ' H' → SqL K H' a xs)
    (hs : ∀ (i : Nat) x σ' H', xs[i]? = some x → Pv i σ' H' → ∀ H2, Ex H' H2 → tu { D with nx := Pv (i + 1), ct := Pv (i + 1), bk := D.nx } ((σ'.set p (some (.int (i : Nat)))).set q (some x)) H2)
    (hd : ∀ σ' H', Pv xs.length σ' H' → D.nx σ' H') : tFor (iJ (Ite K a)) (gTup K 2 (gCons (gName p) (gCons (gName q) gNil))) tu D σ H :=
  for_it (walk_enum (xs := xs)) Pv h0 hq (fun i x σ' H' H2 hi pv y => by
    obtain ⟨T, x1, x2, rfl, hT, rfl, e1, e2⟩ := y
    cases (Option.some.inj e1)
    exact ⟨T, [_, x2], rfl, st_of upd_same, rfl, _, [x2], rfl, x2, [], rfl, rfl, hs i x2 σ' H' e2 pv _ (Ex.new hT)⟩) hd
def EnumK (K : PySem.W.Frag) (g : TG) (tu : TS) (D : Ends) (σ : L2.St) : VK := fun v H2 => ∃ a xs, [v] = [V.ref a] ∧ SqL K H2 a xs ∧ tFor (iJ (Ite K a)) g tu D σ H2
theorem s_forEC {sp : Sp} {E : XK} {t : TA} {vs : List V} (h : EvA t σ H vs) (hs : ∀ H1, Ex H H1 → sp (vs ++ []) H1 (EnumK K g tu D σ) E) : tFor (iEnum K (tCons (tCall sp [] E t) tNil)) g tu D σ H := h H (Ex.refl H) _ hs
theorem q_forEC {sp : Sp} {E : XK} {t : TA} {vs : List V} (h : EvA t σ H vs) (hs : ∀ H1, Ex H H1 → sp (vs ++ []) H1 (EnumK K g tu { D with nx := tz D } σ) E) : tSeq (tFor (iEnum K (tCons (tCall sp [] E t) tNil)) g tu) tz D σ H := s_forEC (D := { D with nx := tz D }) h hs
theorem q_forE {t : TA} {a : Addr} {xs : List V} {p q : Nat} (h : EvA t σ H [.ref a]) (hx : SqL K H a xs) (Pv : Nat → L2.St → Hp → Prop) (h0 : ∀ H1, Ex H H1 → Pv 0 σ H1) (hq : ∀ i σ' H', i ≤ xs.length → Pv i σ' H' → SqL K H' a xs)
    (hs : ∀ (i : Nat) x σ' H', xs[i]? = some x → Pv i σ' H' → ∀ H2, Ex H' H2 → tu { D with nx := Pv (i + 1), ct := Pv (i + 1), bk := tz D } ((σ'.set p (some (.int (i : Nat)))).set q (some x)) H2)
    (hd : ∀ σ' H', Pv xs.length σ' H' → tz D σ' H') : tSeq (tFor (iEnum K t) (gTup K 2 (gCons (gName p) (gCons (gName q) gNil))) tu) tz D σ H :=
  h H (Ex.refl H) _ fun H1 e => ⟨a, xs, rfl, ex_l e hx, enum_go (D := { D with nx := tz D }) Pv (h0 H1 e) hq hs hd⟩
theorem list_go {a : Addr} {xs : List V} (Pv : Nat → L2.St → Hp → Prop) (h0 : Pv 0 σ H) (hq : ∀ i σ' H', i ≤ xs.length → Pv i σ' H' → SqL K H' a xs)
    (hs : ∀ i x σ' H', xs[i]? = some x → Pv i σ' H' → g x σ' H' fun σ2 H2 => tu { D with nx := Pv (i + 1), ct := Pv (i + 1), bk := D.nx } σ2 H2)
    (hd : ∀ σ' H', Pv xs.length σ' H' → D.nx σ' H') : tFor (iJ (Itl K a)) g tu D σ H := for_list Pv h0 hq hs hd
def ListK (K : PySem.W.Frag) (g : TG) (tu : TS) (D : Ends) (σ : L2.St) : VK := fun v H2 => ∃ a, v = V.ref a ∧ (∃ xs, SqL K H2 a xs) ∧ tFor (iJ (Itl K a)) g tu D σ H2
theorem q_forLC {sp : Sp} {E : XK} {t : TA} {vs : List V} (h : EvA t σ H vs) (hs : ∀ H1, Ex H H1 → sp (vs ++ []) H1 (ListK K g tu { D with nx := tz D } σ) E) : tSeq (tFor (iList K (tCall sp [] E t)) g tu) tz D σ H := h H (Ex.refl H) _ hs
theorem zip_go {a b : Addr} {xs ys : List V} {p q : Nat} (hl : xs.length = ys.length) (Pv : Nat → L2.St → Hp → Prop) (h0 : Pv 0 σ H)
    (hq : ∀ i σ' H', Pv i σ' H' → SqL K H' a xs ∧ SqL K H' b ys)
    (hs : ∀ i x y σ' H', xs[i]? = some x → ys[i]? = some y → Pv i σ' H' → ∀ H2, Ex H' H2 → tu { D with nx := Pv (i + 1), ct := Pv (i + 1), bk := D.nx } ((σ'.set p (some x)).set q (some y)) H2)
    (hd : ∀ σ' H', Pv xs.length σ' H' → D.nx σ' H') : tFor (iJ (Itz K a b)) (gTup K 2 (gCons (gName p) (gCons (gName q) gNil))) tu D σ H :=
  RZ.for_zipL hl Pv h0 hq (fun i x y T σ' H' hxi hyi pv hT => ⟨T, [x, y], rfl, st_of upd_same, rfl, x, [y], rfl, y, [], rfl, rfl, hs i x y σ' H' hxi hyi pv _ (Ex.new hT)⟩) hd
def ZipK (K : PySem.W.Frag) (tr : TA) (g : TG) (tu : TS) (D : Ends) (σ : L2.St) : VK := fun v H2 => tr σ H2 fun ws H3 => ∃ a b xs ys, v :: ws = [V.ref a, V.ref b] ∧ SqL K H3 a xs ∧ SqL K H3 b ys ∧ tFor (iJ (Itz K a b)) g tu D σ H3
theorem q_forZC {sp : Sp} {E : XK} {t tr : TA} {vs : List V} (h : EvA t σ H vs) (hs : ∀ H1, Ex H H1 → sp (vs ++ []) H1 (ZipK K tr g tu { D with nx := tz D } σ) E) : tSeq (tFor (iZip K (tCons (tCall sp [] E t) tr)) g tu) tz D σ H := h H (Ex.refl H) _ hs
/-- arguments that are new tuples -/
def EvH (t : TA) (σ : L2.St) (H : Hp) (rows : List (List V)) : Prop := ∀ H1, Ex H H1 → ∀ Q : List V → Hp → Prop, (∀ as H2, Ex H1 H2 → Held H2 as rows → Q (as.map V.ref) H2) → t σ H1 Q
theorem eh_nil : EvH tNil σ H [] := fun H1 _ _ q => q [] H1 (Ex.refl H1) trivial
theorem eh_cons {tr : TA} {xs : List V} {rows : List (List V)} (h : EvU te σ H xs) (hr : EvH tr σ H rows) : EvH (tCons te tr) σ H (xs :: rows) := fun H1 e _ q =>
  h H1 e _ fun p _ _ e2 h2 => hr _ (e.trans e2) _ fun as H3 e3 hd => q (p :: as) H3 (e2.trans e3) ⟨e3 _ _ h2, hd⟩
theorem s_retH {t : TA} {rows : List (List V)} (h : EvH t σ H rows) (hl : rows.length ≤ 100000) (k : RetH rows H D.rt) : tRet (tLst t) D σ H := h H (Ex.refl H) _ fun as H1 e hd =>
  ⟨by rw [List.length_map, hd.len]; exact sz_of hl, fun l hn => k l _ ⟨fresh_back e hn, e.trans (Ex.new hn), as, upd_same, hd.ex (Ex.new hn)⟩⟩
theorem ev_dgetT {a b : Addr} {kvs : List (List L2.Key × V)} {ks : List L2.Key} (h : Ev ta σ H (.ref a)) (hk : Ev tb σ H (.ref b)) (hd : H a = some (.dT kvs)) (hb : H b = some (.tup (ks.map kV))) (hv : valV kvs ks = some v) : Ev (tDGet ta tb) σ H v := fun H1 e Q q =>
  h H1 e _ fun H2 e2 => hk H2 (e.trans e2) _ fun H3 e3 => ⟨a, v, rfl, hv ▸ DGet.t (((e.trans e2).trans e3) _ _ hd) (((e.trans e2).trans e3) _ _ hb), q H3 (e2.trans e3)⟩
theorem s_dputT {a : Addr} {kvs : List (List L2.Key × V)} {ks : List L2.Key} (hd : H a = some (.dT kvs)) (hl : kvs.length < 100000) (ha : Ev td σ H (.ref a)) (hk : EvU ty σ H (ks.map kV)) (hv : Ev tv σ H v) (k : ∀ H1, Ex H H1 → D.nx σ (upd H1 a (.dT (putK kvs ks v)))) : sDPut td ty tv D σ H :=
  hv H (Ex.refl H) _ fun H1 e1 => ha H1 e1 _ fun H2 e2 => hk H2 (e1.trans e2) _ fun p H3 _ e3 h3 => ⟨a, _, rfl, DPut.t (((e1.trans e2).trans e3) _ _ hd) h3 (sz_lt hl), k H3 ((e1.trans e2).trans e3)⟩
theorem s_extL {l : Addr} {us ws : List V} (hl : H l = some (.lst us)) (ha : Ev ta σ H (.ref l)) (h : EvL te σ H ws) (hz : us.length + ws.length ≤ 100000) (k : ∀ H1, Ex H H1 → D.nx σ (upd H1 l (.lst (us ++ ws)))) :
    tDrop (tBM K "list" rExtend ta (tCons te tNil)) D σ H := ha H (Ex.refl H) _ fun H1 e1 =>
  ⟨Or.inl ⟨rfl, us, sq_of (e1 l _ hl)⟩, h H1 e1 _ fun b H2 _ e2 h2 => ⟨l, b, us, ws, rfl, rfl, e2 l _ (e1 l _ hl), h2, sz_of hz, k H2 (e1.trans e2)⟩⟩
theorem q_extL {l : Addr} {us ws : List V} (hl : H l = some (.lst us)) (ha : Ev ta σ H (.ref l)) (h : EvL te σ H ws) (hz : us.length + ws.length ≤ 100000) (k : ∀ H1, Ex H H1 → tz D σ (upd H1 l (.lst (us ++ ws)))) :
    tSeq (tDrop (tBM K "list" rExtend ta (tCons te tNil))) tz D σ H := s_extL (D := { D with nx := tz D }) hl ha h hz k
theorem el_cat {b : Addr} {xs ys : List V} (ha : EvL ta σ H xs) (hb : Ev tb σ H (.ref b)) (hy : H b = some (.lst ys)) (hz : xs.length + ys.length ≤ 100000) : EvL (tOp rCat ta tb) σ H (xs ++ ys) := fun H1 e Q q =>
  ha H1 e _ fun a H2 hn e2 h2 => hb H2 (e.trans e2) _ fun H3 e3 => ⟨a, b, xs, ys, rfl, rfl, e3 _ _ h2, ((e.trans e2).trans e3) _ _ hy, sz_of hz, fun p hp => q p _ (fresh_back (e2.trans e3) hp) ((e2.trans e3).trans (Ex.new hp)) upd_same⟩
/-- [e for b in f(..)], f giving a new list of new tuples -/
theorem el_lcC {sp : Sp} {E : XK} {t : TA} {vs : List V} {rows : List (List V)} {j : Nat} {ws : List Nat} (v : Nat → V) (h : EvA t σ H vs) (hs : ∀ H1, Ex H H1 → ∀ Q E, RetH rows H1 Q → sp (vs ++ []) H1 Q E) (hz : rows.length ≤ 40000)
    (hw : ∀ x, wipe ((wipe σ ws).set j (some x)) ws = wipe σ ws) (he : ∀ (i : Nat) (b : Addr) (row : List V) H1, Ex H H1 → rows[i]? = some row → H1 b = some (.tup row) → Ev te ((wipe σ ws).set j (some (.ref b))) H1 (v i)) :
    EvL (tLc (iList K (tCall sp [] E t)) (gName j) tYes te ws) σ H (given rows.length (fun _ => true) v) := fun H0 e Q q => h H0 e _ fun H1 e1 => hs H1 (e.trans e1) _ _ fun a H2 g => by
  obtain ⟨ha, e2, as, hl, hd⟩ := g
  refine ⟨a, rfl, ⟨as.map V.ref, sq_of hl⟩, fun Dl hD => ?_⟩
  have hE : Ex H H2 := (e.trans e1).trans e2
  refine lc_list (xs := as.map V.ref) (Cw H2 (fun _ => true) v Dl) ⟨hD, Ex.new hD, upd_same⟩ (fun i H' _ p => sq_of (p.2.1 a _ hl)) (fun i x H' hi p => ⟨hw x, ?_⟩)
    (fun H' p => q Dl H' (fresh_back (e1.trans e2) p.1) ((e1.trans e2).trans p.2.1) (by
      have := p.2.2
      rw [List.length_map, hd.len] at this
      exact this))
  have hlt := (List.getElem?_eq_some_iff.mp hi).1
  rw [List.length_map, hd.len] at hlt
  obtain ⟨b, row, rfl, hr, hb⟩ := hd.get hi
  exact cw_turn p (by omega) (fun H3 _ _ q => q H3 (Ex.refl H3)) fun _ => he i b row H2 hE hr hb
theorem q_asgDT {i : Nat} (k : ∀ p, H p = none → tz D (σ.set i (some (.ref p))) (upd H p (.dT []))) : tSeq (tAsg tDNewT (gName i)) tz D σ H := k
/-- x = f([..]) -/
theorem q_asgCL {sp : Sp} {E : XK} {i : Nat} {xs : List V} (h : EvL te σ H xs) (hs : ∀ p H1, Ex H H1 → H1 p = some (.lst xs) → sp [.ref p] H1 (fun v H2 => tz D (σ.set i (some v)) H2) E) :
    tSeq (tAsg (tCall sp [] E (tCons te tNil)) (gName i)) tz D σ H := h H (Ex.refl H) _ fun p H1 _ e h1 => hs p H1 e h1
end
theorem RetH.go {rows : List (List V)} {H H' : Hp} {Q : VK} (k : RetH rows H Q) (e : Ex H H') : RetH rows H' Q := fun p H2 g =>
  let ⟨a, b, as, c, d⟩ := g
  k p H2 ⟨fresh_back e a, e.trans b, as, c, d⟩
theorem RetH.is {rows rows' : List (List V)} {H : Hp} {Q : VK} (k : RetH rows H Q) (e : rows = rows') : RetH rows' H Q := e ▸ k
end Tri

/-! ### J. Rooms, their corners, the colours there -/
namespace Tri
theorem mem_places {m : Nat} {p : Kzs2.Place} (h : p.i + p.j ≤ m) : p ∈ Kzs2.places m := by
  unfold Kzs2.places
  rw [List.mem_flatMap]
  refine ⟨p.j, List.mem_range.mpr (by omega), ?_⟩
  rw [List.mem_map]
  exact ⟨p.i, List.mem_range.mpr (by omega), rfl⟩
theorem rooms_all : ∀ m : Nat, m < 10 → (Kzs2.rooms m).all (fun r => decide (r.i + r.j + (if r.u then 1 else 2) ≤ m)) = true := by decide +kernel
theorem room_in {m : Nat} {r : Kzs2.Room} (hm : m ≤ 9) (h : r ∈ Kzs2.rooms m) : r.i + r.j + (if r.u then 1 else 2) ≤ m := of_decide_eq_true (List.all_eq_true.mp (rooms_all m (by omega)) r h)
theorem corner_in {m : Nat} {r : Kzs2.Room} {p : Kzs2.Place} (hm : m ≤ 9) (h : r ∈ Kzs2.rooms m) (hp : p ∈ Kzs2.corners r) : p ∈ Kzs2.places m := by
  have q := room_in hm h
  obtain ⟨i, j, u⟩ := r
  cases u with
  | true =>
    simp only [Kzs2.corners, if_true, List.mem_cons, List.not_mem_nil, or_false] at hp
    have q : i + j + 1 ≤ m := q
    rcases hp with rfl | rfl | rfl <;> refine mem_places ?_ <;> dsimp only <;> omega
  | false =>
    have e : Kzs2.corners ⟨i, j, false⟩ = [⟨i + 1, j + 1⟩, ⟨i, j + 1⟩, ⟨i + 1, j⟩] := rfl
    rw [e] at hp
    simp only [List.mem_cons, List.not_mem_nil, or_false] at hp
    have q : i + j + 2 ≤ m := q
    rcases hp with rfl | rfl | rfl <;> refine mem_places ?_ <;> dsimp only <;> omega
theorem fair_at {m : Nat} {c : List Nat} {p : Kzs2.Place} (hm : m ≤ 9) (hf : Kzs2.fair m c = true) (hp : p ∈ Kzs2.places m) : Kzs2.colour m c p ≤ 2 ∧ Kzs2.number m p (Kzs2.colour m c p) ≠ 0 := by
  obtain ⟨hl, h⟩ := (fair_iff hm).mp hf
  obtain ⟨i, hi⟩ := List.mem_iff_getElem?.mp hp
  have hlt : i < c.length := by
    rw [hl]
    exact (List.getElem?_eq_some_iff.mp hi).1
  have q := h i p c[i] hi (List.getElem?_eq_getElem hlt)
  have e : Kzs2.colour m c p = c[i] := by
    unfold Kzs2.colour
    rw [noOf_at hm hi]
    exact getD_at (List.getElem?_eq_getElem hlt)
  rw [e]
  exact q
theorem colour_at {m i : Nat} {c : List Nat} {p : Kzs2.Place} {x : Nat} (hm : m ≤ 9) (hi : (Kzs2.places m)[i]? = some p) (hx : c[i]? = some x) : Kzs2.colour m c p = x := by
  unfold Kzs2.colour
  rw [noOf_at hm hi]
  exact getD_at hx
def turnI (x y z : Int) : Int := if (z - y) % 3 = (y - x) % 3 then (y - x) % 3 else 0
theorem meets_turn {m : Nat} {c : List Nat} {r : Kzs2.Room} {x y z : Nat} (h : Kzs2.colours m c r = [x, y, z]) (hx : x ≤ 2) (hy : y ≤ 2) (hz : z ≤ 2) : (Kzs2.meets m c r : Int) = turnI x y z := by
  unfold Kzs2.meets
  rw [h]
  obtain rfl | rfl | rfl : x = 0 ∨ x = 1 ∨ x = 2 := by omega
  all_goals obtain rfl | rfl | rfl : y = 0 ∨ y = 1 ∨ y = 2 := by omega
  all_goals obtain rfl | rfl | rfl : z = 0 ∨ z = 1 ∨ z = 2 := by omega
  all_goals rfl
theorem corners_three (r : Kzs2.Room) : ∃ p q s, Kzs2.corners r = [p, q, s] := by
  obtain ⟨i, j, u⟩ := r
  cases u
  · exact ⟨_, _, _, rfl⟩
  · exact ⟨_, _, _, rfl⟩
/-- what meets in room k -/
def mt (m : Nat) (c : List Nat) (k : Nat) : Nat := Kzs2.meets m c ((Kzs2.rooms m).getD k ⟨0, 0, true⟩)
theorem mt_at {m : Nat} {c : List Nat} {k : Nat} {r : Kzs2.Room} (h : (Kzs2.rooms m)[k]? = some r) : mt m c k = Kzs2.meets m c r := by
  unfold mt
  rw [List.getD_eq_getElem?_getD, h]
  rfl
def foundTo (m : Nat) (c : List Nat) (i : Nat) : List Nat := (List.range i).filter fun k => mt m c k != 0
theorem foundTo_all (m : Nat) (c : List Nat) : Kzs2.found m c = foundTo m c (Kzs2.rooms m).length := rfl
theorem foundTo_yes {m : Nat} {c : List Nat} {i : Nat} (h : mt m c i ≠ 0) : foundTo m c (i + 1) = foundTo m c i ++ [i] := by
  unfold foundTo
  rw [List.range_succ, List.filter_append]
  have e : (mt m c i != 0) = true := bne_iff_ne.mpr h
  rw [List.filter_cons, e]
  rfl
theorem foundTo_no {m : Nat} {c : List Nat} {i : Nat} (h : mt m c i = 0) : foundTo m c (i + 1) = foundTo m c i := by
  unfold foundTo
  rw [List.range_succ, List.filter_append, List.filter_cons, h]
  exact List.append_nil _
theorem foundTo_len (m : Nat) (c : List Nat) (i : Nat) : (foundTo m c i).length ≤ i := by
  have h := List.length_filter_le (fun k => mt m c k != 0) (List.range i)
  rw [List.length_range] at h
  exact h
theorem rooms_few {m : Nat} (hm : m ≤ 9) : (Kzs2.rooms m).length ≤ 162 := by
  have a := upTo_len m m
  have c : 2 * m * m ≤ 18 * 9 := Nat.mul_le_mul (by omega) (by omega)
  rw [rooms_upTo]
  omega
theorem withFair_no {m : Int} {c : List Int} (h : ¬ ((1 ≤ m ∧ m ≤ 9) ∧ Kzs2.fair m.toNat (c.map Int.toNat) = true)) (k : Unit → Kzs1.Ans) : Kzs2.withFair m.toNat (Kzs2Neutral.natsOf c) k = Kzs1.say (-22) := by
  unfold Kzs2.withFair Kzs2.most
  refine if_pos ?_
  by_cases a : m.toNat = 0 ∨ 9 < m.toNat
  · exact a.elim Or.inl fun z => Or.inr (Or.inl z)
  · refine Or.inr (Or.inr ?_)
    cases q : Kzs2.fair m.toNat (Kzs2Neutral.natsOf c) with
    | false => rfl
    | true => exact absurd ⟨by omega, q⟩ h
theorem withFair_yes {n : Nat} {c : List Int} (h : 1 ≤ n ∧ n ≤ 9) (hf : Kzs2.fair n (c.map Int.toNat) = true) (k : Unit → Kzs1.Ans) : Kzs2.withFair n (Kzs2Neutral.natsOf c) k = k () := by
  unfold Kzs2.withFair Kzs2.most
  refine if_neg ?_
  rintro (a | a | a)
  · omega
  · omega
  · have q : Kzs2.fair n (Kzs2Neutral.natsOf c) = true := hf
    rw [q] at a
    cases a
theorem f_found_no (m : Int) (c : List Int) (h : ¬ ((1 ≤ m ∧ m ≤ 9) ∧ Kzs2.fair m.toNat (c.map Int.toNat) = true)) : PyKzs2.found m c = [-22] := by
  show (Kzs2.answer (.found m.toNat (Kzs2Neutral.natsOf c))).value :: (Kzs2.answer (.found m.toNat (Kzs2Neutral.natsOf c))).nums = [-22]
  have e : Kzs2.answer (.found m.toNat (Kzs2Neutral.natsOf c)) = Kzs1.say (-22) := by
    rw [Kzs2.answer]
    exact withFair_no h _
  rw [e]
  rfl
theorem f_found (n : Nat) (c : List Int) (h : 1 ≤ n ∧ n ≤ 9) (hf : Kzs2.fair n (c.map Int.toNat) = true) : PyKzs2.found (n : Int) c = ((foundTo n (c.map Int.toNat) (Kzs2.rooms n).length).length : Int) :: (foundTo n (c.map Int.toNat) (Kzs2.rooms n).length).flatMap fun (k : Nat) => [(k : Int), (mt n (c.map Int.toNat) k : Int)] := by
  show (Kzs2.answer (.found n (Kzs2Neutral.natsOf c))).value :: (Kzs2.answer (.found n (Kzs2Neutral.natsOf c))).nums = _
  have e : Kzs2.answer (.found n (Kzs2Neutral.natsOf c)) = ⟨((Kzs2.found n (Kzs2Neutral.natsOf c)).length : Nat), (Kzs2.found n (Kzs2Neutral.natsOf c)).flatMap fun (k : Nat) => [(k : Int), (mt n (Kzs2Neutral.natsOf c) k : Int)]⟩ := by
    rw [Kzs2.answer]
    exact withFair_yes h hf _
  rw [e]
  rfl
end Tri

/-! ### M. Sides, the points that have them, the row of the lines -/
namespace Tri
/-- a side, from a place to a place -/
abbrev Side := Kzs2.Place × Kzs2.Place
def rev (s : Side) : Side := (s.2, s.1)
def outerSide (m i : Nat) : Side := (⟨i, m - i⟩, ⟨i + 1, m - i - 1⟩)
/-- of each point its sides -/
def sidesOf (m : Nat) : List (List Side) := (Kzs2.rooms m).map Kzs2.sides ++ (List.range m).map fun i => [outerSide m i]
/-- the last point below n that has a side -/
def lastWith (L : List (List Side)) (s : Side) : Nat → Option Nat
  | 0 => none
  | n + 1 => if s ∈ L.getD n [] then some n else lastWith L s n
/-- the point beyond a room's side -/
def goal (m : Nat) (s : Side) : Nat := match Kzs2.beyond m s with
  | some k => k
  | none => Kzs2.outer m s
/-- the room of an outer side -/
def roomOf (m : Nat) (o : Side) : Nat := ((Kzs2.rooms m).findIdx? fun r => (Kzs2.sides r).contains (rev o)).getD (Kzs2.rooms m).length
def tableA (m : Nat) : Bool := (Kzs2.rooms m).all fun r => (Kzs2.sides r).all fun s => match lastWith (sidesOf m) (rev s) (sidesOf m).length with
  | some k => goal m s == k
  | none => (s.1.i == 0 && s.2.i == 0) || (s.1.j == 0 && s.2.j == 0)
def tableB (m : Nat) : Bool := (List.range m).all fun i => lastWith (sidesOf m) (rev (outerSide m i)) (sidesOf m).length == some (roomOf m (outerSide m i))
set_option maxRecDepth 100000 in
theorem tableA_all : ∀ m : Nat, m < 10 → tableA m = true := by decide +kernel
set_option maxRecDepth 100000 in
theorem tableB_all : ∀ m : Nat, m < 10 → tableB m = true := by decide +kernel
/-- a door from a colour to a colour -/
def isDoor (m : Nat) (c : List Nat) (x y : Nat) (s : Side) : Bool := Kzs2.colour m c s.1 == x && Kzs2.colour m c s.2 == y
/-- what's told of a point by its sides -/
def told1 (m : Nat) (c : List Nat) (x y : Nat) (g : Side → Nat) (ss : List Side) : Nat := match ss.find? (isDoor m c x y) with
  | none => 0
  | some s => g s + 1
theorem sides_in {m : Nat} {r : Kzs2.Room} {s : Side} (hm : m ≤ 9) (hr : r ∈ Kzs2.rooms m) (hs : s ∈ Kzs2.sides r) : s.1 ∈ Kzs2.places m ∧ s.2 ∈ Kzs2.places m := by
  obtain ⟨p, q, t, hc⟩ := corners_three r
  have h : Kzs2.sides r = [(p, q), (q, t), (t, p)] := by
    unfold Kzs2.sides
    rw [hc]
  rw [h] at hs
  have i0 := corner_in hm hr (p := p) (by rw [hc]; simp)
  have i1 := corner_in hm hr (p := q) (by rw [hc]; simp)
  have i2 := corner_in hm hr (p := t) (by rw [hc]; simp)
  simp only [List.mem_cons, List.not_mem_nil, or_false] at hs
  rcases hs with rfl | rfl | rfl
  · exact ⟨i0, i1⟩
  · exact ⟨i1, i2⟩
  · exact ⟨i2, i0⟩
theorem outer_in {m i : Nat} (h : i < m) : (outerSide m i).1 ∈ Kzs2.places m ∧ (outerSide m i).2 ∈ Kzs2.places m := by
  refine ⟨mem_places ?_, mem_places ?_⟩
  · show i + (m - i) ≤ m
    omega
  · show i + 1 + (m - i - 1) ≤ m
    omega
theorem door_both {m : Nat} {c : List Nat} {x y : Nat} {s : Side} (hxy : (x = 0 ∧ y = 1) ∨ (x = 1 ∧ y = 0)) (hm : m ≤ 9) (hf : Kzs2.fair m c = true) (h1 : s.1 ∈ Kzs2.places m) (h2 : s.2 ∈ Kzs2.places m) (hd : isDoor m c x y s = true) :
    ¬ ((s.1.i == 0 && s.2.i == 0) || (s.1.j == 0 && s.2.j == 0)) = true := by
  intro q
  unfold isDoor at hd
  rw [Bool.and_eq_true, beq_iff_eq, beq_iff_eq] at hd
  have f1 := (fair_at hm hf h1).2
  have f2 := (fair_at hm hf h2).2
  rw [hd.1] at f1
  rw [hd.2] at f2
  unfold Kzs2.number at f1 f2
  simp only [Bool.or_eq_true, Bool.and_eq_true, beq_iff_eq] at q
  rcases hxy with ⟨rfl, rfl⟩ | ⟨rfl, rfl⟩
  · rcases q with ⟨q1, _⟩ | ⟨_, q2⟩
    · exact f1 q1
    · exact f2 q2
  · rcases q with ⟨_, q2⟩ | ⟨q1, _⟩
    · exact f2 q2
    · exact f1 q1
/-- behind every door of a room there is a point -/
theorem room_goal {m : Nat} {c : List Nat} {x y : Nat} {r : Kzs2.Room} {s : Side} (hxy : (x = 0 ∧ y = 1) ∨ (x = 1 ∧ y = 0)) (hm : m ≤ 9) (hf : Kzs2.fair m c = true) (hr : r ∈ Kzs2.rooms m) (hs : s ∈ Kzs2.sides r) (hd : isDoor m c x y s = true) :
    lastWith (sidesOf m) (rev s) (sidesOf m).length = some (goal m s) := by
  have t := List.all_eq_true.mp (List.all_eq_true.mp (tableA_all m (by omega)) r hr) s hs
  have io := sides_in hm hr hs
  cases q : lastWith (sidesOf m) (rev s) (sidesOf m).length with
  | none =>
    rw [q] at t
    exact absurd t (door_both hxy hm hf io.1 io.2 hd)
  | some k =>
    rw [q] at t
    have t2 : (goal m s == k) = true := t
    rw [beq_iff_eq] at t2
    rw [t2]
theorem outer_room {m i : Nat} (hm : m ≤ 9) (hi : i < m) : lastWith (sidesOf m) (rev (outerSide m i)) (sidesOf m).length = some (roomOf m (outerSide m i)) := by
  have t := List.all_eq_true.mp (tableB_all m (by omega)) i (List.mem_range.mpr hi)
  exact beq_iff_eq.mp t
theorem sidesOf_len (m : Nat) : (sidesOf m).length = (Kzs2.rooms m).length + m := by
  unfold sidesOf
  rw [List.length_append, List.length_map, List.length_map, List.length_range]
/-- a point is a room, or an outer side -/
theorem point_cases {m k : Nat} {ss : List Side} (h : (sidesOf m)[k]? = some ss) : (∃ r, (Kzs2.rooms m)[k]? = some r ∧ ss = Kzs2.sides r) ∨ ∃ i, i < m ∧ k = (Kzs2.rooms m).length + i ∧ ss = [outerSide m i] := by
  unfold sidesOf at h
  by_cases hk : k < (Kzs2.rooms m).length
  · left
    rw [List.getElem?_append_left (by rw [List.length_map]; exact hk), List.getElem?_map] at h
    cases q : (Kzs2.rooms m)[k]? with
    | none =>
      rw [q] at h
      cases h
    | some r =>
      rw [q] at h
      exact ⟨r, rfl, (Option.some.inj h).symm⟩
  · right
    rw [List.getElem?_append_right (by rw [List.length_map]; omega), List.length_map, List.getElem?_map] at h
    by_cases hi : k - (Kzs2.rooms m).length < m
    · rw [List.getElem?_range hi] at h
      exact ⟨k - (Kzs2.rooms m).length, hi, by omega, (Option.some.inj h).symm⟩
    · rw [List.getElem?_eq_none (by rw [List.length_range]; omega)] at h
      cases h
theorem side_few {m : Nat} {ss : List Side} (h : ss ∈ sidesOf m) : ss.length ≤ 3 := by
  obtain ⟨k, hk⟩ := List.mem_iff_getElem?.mp h
  rcases point_cases hk with ⟨r, _, rfl⟩ | ⟨i, _, _, rfl⟩
  · obtain ⟨p, q, t, hc⟩ := corners_three r
    unfold Kzs2.sides
    rw [hc]
    exact Nat.le_refl 3
  · show 1 ≤ 3
    omega
theorem nx_len (m : Nat) (c : List Nat) : (Kzs2.toLines m c).nx.length = (sidesOf m).length := by
  unfold Kzs2.toLines
  rw [sidesOf_len, List.length_append, List.length_map, List.length_map, List.length_range]
theorem at_map {α : Type} {f : α → Nat} {l : List α} {k : Nat} {x : α} {t : List Nat} (h : l[k]? = some x) : (l.map f ++ t).getD k 0 = f x := by
  have hk := (List.getElem?_eq_some_iff.mp h).1
  rw [List.getD_eq_getElem?_getD, List.getElem?_append_left (by rw [List.length_map]; exact hk), List.getElem?_map, h]
  rfl
theorem at_range {α : Type} {f : α → Nat} {g : Nat → Nat} {l : List α} {m i : Nat} (h : i < m) : (l.map f ++ (List.range m).map g).getD (l.length + i) 0 = g i := by
  rw [List.getD_eq_getElem?_getD, List.getElem?_append_right (by rw [List.length_map]; omega), List.length_map, List.getElem?_map, show l.length + i - l.length = i by omega, List.getElem?_range h]
  rfl
theorem told_room (m : Nat) (c : List Nat) (x y : Nat) (ss : List Side) : told1 m c x y (goal m) ss = match ss.find? fun s => Kzs2.colour m c s.1 == x && Kzs2.colour m c s.2 == y with
    | none => 0
    | some s => (match Kzs2.beyond m s with
      | some k => k
      | none => Kzs2.outer m s) + 1 := rfl
theorem nx_room {m : Nat} {c : List Nat} {k : Nat} {r : Kzs2.Room} (h : (Kzs2.rooms m)[k]? = some r) : (Kzs2.toLines m c).nx.getD k 0 = told1 m c 1 0 (goal m) (Kzs2.sides r) := by
  unfold Kzs2.toLines
  exact at_map h
theorem bf_room {m : Nat} {c : List Nat} {k : Nat} {r : Kzs2.Room} (h : (Kzs2.rooms m)[k]? = some r) : (Kzs2.toLines m c).bf.getD k 0 = told1 m c 0 1 (goal m) (Kzs2.sides r) := by
  unfold Kzs2.toLines
  exact at_map h
theorem told_one (m : Nat) (c : List Nat) (x y : Nat) (g : Side → Nat) (s : Side) : told1 m c x y g [s] = if Kzs2.colour m c s.2 = y ∧ Kzs2.colour m c s.1 = x then g s + 1 else 0 := by
  unfold told1
  rw [List.find?_cons]
  by_cases h : isDoor m c x y s = true
  · rw [h]
    unfold isDoor at h
    rw [Bool.and_eq_true, beq_iff_eq, beq_iff_eq] at h
    rw [if_pos ⟨h.2, h.1⟩]
  · rw [Bool.not_eq_true] at h
    rw [h, if_neg]
    · rfl
    · rintro ⟨a, b⟩
      unfold isDoor at h
      rw [a, b, beq_self_eq_true, beq_self_eq_true] at h
      cases h
theorem nx_outer {m : Nat} {c : List Nat} {i : Nat} (h : i < m) : (Kzs2.toLines m c).nx.getD ((Kzs2.rooms m).length + i) 0 = told1 m c 1 0 (roomOf m) [outerSide m i] := by
  rw [told_one]
  unfold Kzs2.toLines
  exact at_range h
theorem bf_outer {m : Nat} {c : List Nat} {i : Nat} (h : i < m) : (Kzs2.toLines m c).bf.getD ((Kzs2.rooms m).length + i) 0 = told1 m c 0 1 (roomOf m) [outerSide m i] := by
  rw [told_one]
  unfold Kzs2.toLines
  exact at_range h
/-- the row of the lines, of the points below i -/
def rowUp (m : Nat) (c : List Nat) (i : Nat) : List Nat := (List.range i).flatMap fun v => [(Kzs2.toLines m c).nx.getD v 0, (Kzs2.toLines m c).bf.getD v 0]
theorem rowUp_succ (m : Nat) (c : List Nat) (i : Nat) : rowUp m c (i + 1) = rowUp m c i ++ [(Kzs2.toLines m c).nx.getD i 0, (Kzs2.toLines m c).bf.getD i 0] := flat_succ _ i
theorem rowUp_len (m : Nat) (c : List Nat) : ∀ i, (rowUp m c i).length = 2 * i
  | 0 => rfl
  | i + 1 => by
    rw [rowUp_succ, List.length_append, rowUp_len m c i]
    show _ + 2 = _
    omega
theorem written_row (m : Nat) (c : List Nat) : Kzs1.written (Kzs2.toLines m c) = rowUp m c (sidesOf m).length := by
  rw [← nx_len m c]
  rfl
theorem f_lines_no (m : Int) (c : List Int) (h : ¬ ((1 ≤ m ∧ m ≤ 9) ∧ Kzs2.fair m.toNat (c.map Int.toNat) = true)) : PyKzs2.lines m c = [-22] := by
  show (Kzs2.answer (.lines m.toNat (Kzs2Neutral.natsOf c))).value :: (Kzs2.answer (.lines m.toNat (Kzs2Neutral.natsOf c))).nums = [-22]
  have e : Kzs2.answer (.lines m.toNat (Kzs2Neutral.natsOf c)) = Kzs1.say (-22) := by
    rw [Kzs2.answer]
    exact withFair_no h _
  rw [e]
  rfl
theorem f_lines (n : Nat) (c : List Int) (h : 1 ≤ n ∧ n ≤ 9) (hf : Kzs2.fair n (c.map Int.toNat) = true) : PyKzs2.lines (n : Int) c = ((rowUp n (c.map Int.toNat) (sidesOf n).length).length : Int) :: (rowUp n (c.map Int.toNat) (sidesOf n).length).map fun (x : Nat) => (x : Int) := by
  show (Kzs2.answer (.lines n (Kzs2Neutral.natsOf c))).value :: (Kzs2.answer (.lines n (Kzs2Neutral.natsOf c))).nums = _
  have e : Kzs2.answer (.lines n (Kzs2Neutral.natsOf c)) = Kzs1.told (Kzs1.ints (Kzs1.written (Kzs2.toLines n (Kzs2Neutral.natsOf c)))) := by
    rw [Kzs2.answer]
    exact withFair_yes h hf _
  rw [e, written_row]
  unfold Kzs1.told Kzs1.ints
  rw [List.length_map]
  rfl
end Tri

/-! ### L. Lines: steps are one to one, so a line from an end comes to its other end before its points run out -/
namespace Tri
open Kzs1 (Lines next before onward backward size)
theorem next_iff {g : Lines} {v w : Nat} : next g v = some w ↔ g.nx.getD v 0 = w + 1 ∧ g.bf.getD w 0 = v + 1 := by
  show (if g.nx.getD v 0 = 0 then none else if g.bf.getD (g.nx.getD v 0 - 1) 0 = v + 1 then some (g.nx.getD v 0 - 1) else none) = some w ↔ _
  generalize g.nx.getD v 0 = u
  cases u with
  | zero => simp
  | succ u =>
    rw [if_neg (Nat.succ_ne_zero u), Nat.add_sub_cancel]
    by_cases c : g.bf.getD u 0 = v + 1
    · rw [if_pos c]
      constructor
      · intro e
        obtain rfl := Option.some.inj e
        exact ⟨rfl, c⟩
      · rintro ⟨e, _⟩
        rw [Nat.succ.inj e]
    · rw [if_neg c]
      constructor
      · intro e
        cases e
      · rintro ⟨e, d⟩
        rw [Nat.succ.inj e] at c
        exact absurd d c
def swap (g : Lines) : Lines := ⟨g.bf, g.nx⟩
theorem before_swap (g : Lines) (v : Nat) : before g v = next (swap g) v := rfl
theorem before_iff {g : Lines} {v w : Nat} : before g v = some w ↔ g.bf.getD v 0 = w + 1 ∧ g.nx.getD w 0 = v + 1 := next_iff (g := swap g)
theorem next_before {g : Lines} {v w : Nat} : next g v = some w ↔ before g w = some v := by
  rw [next_iff, before_iff]
  exact And.comm
theorem backward_swap (g : Lines) : ∀ k v, backward g k v = onward (swap g) k v
  | 0, _ => rfl
  | k + 1, v => by
    show (match before g v with | some w => v :: backward g k w | none => [v]) = (match next (swap g) v with | some w => v :: onward (swap g) k w | none => [v])
    rw [before_swap]
    cases next (swap g) v with
    | none => rfl
    | some w =>
      show v :: backward g k w = v :: onward (swap g) k w
      rw [backward_swap g k w]
/-- the point n steps on -/
def its (g : Lines) : Nat → Nat → Option Nat
  | 0, v => some v
  | n + 1, v => (its g n v).bind (next g)
theorem its_prev {g : Lines} {n v a : Nat} (h : its g (n + 1) v = some a) : ∃ b, its g n v = some b ∧ next g b = some a := by
  have h' : (its g n v).bind (next g) = some a := h
  cases q : its g n v with
  | none =>
    rw [q] at h'
    cases h'
  | some b =>
    rw [q] at h'
    exact ⟨b, rfl, h'⟩
theorem its_step {g : Lines} {n v a b : Nat} (h : its g n v = some a) (s : next g a = some b) : its g (n + 1) v = some b := by
  show (its g n v).bind (next g) = some b
  rw [h]
  exact s
theorem next_inj {g : Lines} {a b w : Nat} (h : next g a = some w) (k : next g b = some w) : a = b := by
  have := (next_iff.mp h).2
  have := (next_iff.mp k).2
  omega
/-- no point comes twice -/
theorem its_inj {g : Lines} {v : Nat} (hv : before g v = none) : ∀ n d a, its g n v = some a → its g (n + d + 1) v ≠ some a
  | 0, d, a, h, k => by
    obtain ⟨b, _, s⟩ := its_prev (n := 0 + d) k
    obtain rfl : v = a := Option.some.inj h
    rw [next_before] at s
    rw [hv] at s
    cases s
  | n + 1, d, a, h, k => by
    obtain ⟨b, hb, s⟩ := its_prev h
    have k' : its g ((n + d + 1) + 1) v = some a := by
      rw [show (n + d + 1) + 1 = n + 1 + d + 1 by omega]
      exact k
    obtain ⟨c, hc, s'⟩ := its_prev k'
    rw [next_inj s' s] at hc
    exact its_inj hv n d b hb hc
theorem few : ∀ (n : Nat) (l : List Nat), l.Nodup → (∀ x ∈ l, x < n) → l.length ≤ n
  | 0, [], _, _ => Nat.le_refl _
  | 0, x :: _, _, h => absurd (h x (List.mem_cons_self ..)) (Nat.not_lt_zero x)
  | n + 1, l, d, h => by
    have e := few n (l.erase n) (d.erase n) fun x hx => by
      rw [d.mem_erase_iff] at hx
      have := h x hx.2
      have := hx.1
      omega
    by_cases m : n ∈ l
    · rw [List.length_erase_of_mem m] at e
      omega
    · rw [List.erase_of_not_mem m] at e
      omega
theorem next_lt {g : Lines} (hl : g.bf.length = g.nx.length) {a b : Nat} (h : next g a = some b) : a < size g ∧ b < size g := by
  obtain ⟨h1, h2⟩ := next_iff.mp h
  unfold size
  constructor
  · refine Nat.lt_of_not_le fun c => ?_
    rw [List.getD_eq_getElem?_getD, List.getElem?_eq_none c] at h1
    cases h1
  · refine Nat.lt_of_not_le fun c => ?_
    rw [List.getD_eq_getElem?_getD, List.getElem?_eq_none (by omega)] at h2
    cases h2
theorem its_defined {g : Lines} {v : Nat} : ∀ {n : Nat} {a : Nat}, its g n v = some a → ∀ m, m ≤ n → ∃ b, its g m v = some b
  | 0, a, h, m, hm => by
    obtain rfl : m = 0 := by omega
    exact ⟨a, h⟩
  | n + 1, a, h, m, hm => by
    by_cases e : m = n + 1
    · rw [e]
      exact ⟨a, h⟩
    · obtain ⟨b, hb, _⟩ := its_prev h
      exact its_defined hb m (by omega)
/-- the points met in n steps -/
def met (g : Lines) (v n : Nat) : List Nat := (List.range n).filterMap fun i => its g i v
theorem met_len {g : Lines} {v : Nat} : ∀ {n : Nat}, (∀ m, m < n → ∃ b, its g m v = some b) → (met g v n).length = n
  | 0, _ => rfl
  | n + 1, h => by
    obtain ⟨b, hb⟩ := h n (Nat.lt_succ_self n)
    have e : met g v (n + 1) = met g v n ++ [b] := by
      unfold met
      rw [List.range_succ, List.filterMap_append]
      congr 1
      show List.filterMap (fun i => its g i v) [n] = [b]
      rw [List.filterMap_cons_some (f := fun i => its g i v) hb, List.filterMap_nil]
    rw [e, List.length_append, met_len fun m hm => h m (by omega)]
    rfl
theorem met_nodup {g : Lines} {v : Nat} (hv : before g v = none) : ∀ n, (met g v n).Nodup
  | 0 => List.nodup_nil
  | n + 1 => by
    have ih := met_nodup hv (g := g) n
    cases hb : its g n v with
    | none =>
      have e : met g v (n + 1) = met g v n := by
        unfold met
        rw [List.range_succ, List.filterMap_append]
        show _ ++ List.filterMap (fun i => its g i v) [n] = _
        rw [List.filterMap_cons_none (f := fun i => its g i v) hb, List.filterMap_nil, List.append_nil]
      rw [e]
      exact ih
    | some b =>
      have e : met g v (n + 1) = met g v n ++ [b] := by
        unfold met
        rw [List.range_succ, List.filterMap_append]
        congr 1
        show List.filterMap (fun i => its g i v) [n] = [b]
        rw [List.filterMap_cons_some (f := fun i => its g i v) hb, List.filterMap_nil]
      rw [e, List.nodup_append]
      refine ⟨ih, List.nodup_cons.mpr ⟨by simp, List.nodup_nil⟩, fun x hx y hy => ?_⟩
      obtain rfl : y = b := by simpa using hy
      rintro rfl
      unfold met at hx
      rw [List.mem_filterMap] at hx
      obtain ⟨i, hi, hix⟩ := hx
      have hlt := List.mem_range.mp hi
      refine its_inj hv i (n - i - 1) x hix ?_
      rw [show i + (n - i - 1) + 1 = n by omega]
      exact hb
theorem its_lt {g : Lines} {v : Nat} (hl : g.bf.length = g.nx.length) (hs : v < size g) (hv : before g v = none) {n a : Nat} (h : its g n v = some a) : n < size g := by
  have hd := its_defined h
  have e := met_len (g := g) (v := v) (n := n + 1) fun m hm => hd m (by omega)
  have f := few (size g) (met g v (n + 1)) (met_nodup hv _) fun x hx => by
    unfold met at hx
    rw [List.mem_filterMap] at hx
    obtain ⟨i, _, hix⟩ := hx
    cases i with
    | zero =>
      obtain rfl : v = x := Option.some.inj hix
      exact hs
    | succ i =>
      obtain ⟨b, _, s⟩ := its_prev hix
      exact (next_lt hl s).2
  omega
theorem onward_none {g : Lines} {v : Nat} (h : next g v = none) : ∀ k, onward g k v = [v]
  | 0 => rfl
  | k + 1 => by
    show (match next g v with | some w => v :: onward g k w | none => [v]) = [v]
    rw [h]
theorem onward_some {g : Lines} {v w : Nat} (h : next g v = some w) (k : Nat) : onward g (k + 1) v = v :: onward g k w := by
  show (match next g v with | some w => v :: onward g k w | none => [v]) = v :: onward g k w
  rw [h]
/-- one step more of a line that is gone so far: the rest of it is known -/
structure Gone (g : Lines) (v : Nat) (pre : List Nat) (cur : Nat) : Prop where
  at' : its g pre.length v = some cur
  rest : onward g (size g) v = pre ++ onward g (size g - pre.length) cur
theorem Gone.start (g : Lines) (v : Nat) : Gone g v [] v := ⟨rfl, rfl⟩
theorem Gone.short {g : Lines} {v cur : Nat} {pre : List Nat} (G : Gone g v pre cur) (hl : g.bf.length = g.nx.length) (hs : v < size g) (hv : before g v = none) : pre.length < size g := its_lt hl hs hv G.at'
theorem Gone.more {g : Lines} {v cur w : Nat} {pre : List Nat} (G : Gone g v pre cur) (hl : g.bf.length = g.nx.length) (hs : v < size g) (hv : before g v = none) (s : next g cur = some w) : Gone g v (pre ++ [cur]) w := by
  have h1 : its g (pre.length + 1) v = some w := its_step G.at' s
  have lt := its_lt hl hs hv h1
  refine ⟨?_, ?_⟩
  · rw [List.length_append]
    exact h1
  · have e : size g - pre.length = (size g - (pre ++ [cur]).length) + 1 := by
      rw [List.length_append, List.length_singleton]
      omega
    rw [G.rest, e, onward_some s, List.append_assoc]
    rfl
theorem Gone.done {g : Lines} {v cur : Nat} {pre : List Nat} (G : Gone g v pre cur) (s : next g cur = none) : onward g (size g) v = pre ++ [cur] := by
  rw [G.rest, onward_none s]
end Tri

/-! ### W. For fair colours what's next and what's before agree -/
namespace Tri
open Kzs1 (Lines next before size)
def tableC (m : Nat) : Bool := (List.range (sidesOf m).length).all fun k => ((sidesOf m).getD k []).all fun s => lastWith (sidesOf m) s (sidesOf m).length == some k
set_option maxRecDepth 100000 in
theorem tableC_all : ∀ m : Nat, m < 10 → tableC m = true := by decide +kernel
theorem owner {m k : Nat} {ss : List Side} {s : Side} (hm : m ≤ 9) (h : (sidesOf m)[k]? = some ss) (hs : s ∈ ss) : lastWith (sidesOf m) s (sidesOf m).length = some k := by
  have hk := (List.getElem?_eq_some_iff.mp h).1
  have t := List.all_eq_true.mp (List.all_eq_true.mp (tableC_all m (by omega)) k (List.mem_range.mpr hk)) s (by
    rw [List.getD_eq_getElem?_getD, h]
    exact hs)
  exact beq_iff_eq.mp t
theorem lastWith_in {L : List (List Side)} {s : Side} : ∀ {n k : Nat}, lastWith L s n = some k → k < n ∧ s ∈ L.getD k []
  | 0, _, h => by cases h
  | n + 1, k, h => by
    unfold lastWith at h
    by_cases c : s ∈ L.getD n []
    · rw [if_pos c] at h
      obtain rfl := Option.some.inj h
      exact ⟨Nat.lt_succ_self _, c⟩
    · rw [if_neg c] at h
      have q := lastWith_in h
      exact ⟨Nat.lt_succ_of_lt q.1, q.2⟩
theorem isDoor_rev {m : Nat} {c : List Nat} {x y : Nat} {s : Side} (h : isDoor m c x y s = true) : isDoor m c y x (rev s) = true := by
  unfold isDoor at *
  rw [Bool.and_eq_true] at *
  exact ⟨h.2, h.1⟩
theorem one_door {m k : Nat} {c : List Nat} {x y : Nat} {ss : List Side} {s t : Side} (hxy : x ≠ y) (h : (sidesOf m)[k]? = some ss) (hs : s ∈ ss) (ht : t ∈ ss) (ds : isDoor m c x y s = true) (dt : isDoor m c x y t = true) : s = t := by
  rcases point_cases h with ⟨r, _, rfl⟩ | ⟨i, _, _, rfl⟩
  · obtain ⟨p, q, u, hc⟩ := corners_three r
    have e : Kzs2.sides r = [(p, q), (q, u), (u, p)] := by
      unfold Kzs2.sides
      rw [hc]
    rw [e] at hs ht
    unfold isDoor at ds dt
    simp only [List.mem_cons, List.not_mem_nil, or_false] at hs ht
    rw [Bool.and_eq_true, beq_iff_eq, beq_iff_eq] at ds dt
    rcases hs with rfl | rfl | rfl <;> rcases ht with rfl | rfl | rfl
    all_goals first
      | rfl
      | exact absurd (ds.1.symm.trans dt.2) hxy
      | exact absurd (dt.1.symm.trans ds.2) hxy
  · rw [List.mem_singleton.mp hs, List.mem_singleton.mp ht]
/-- what the row tells of a point, by its sides -/
theorem point_row {m k : Nat} {c : List Nat} {ss : List Side} (hm : m ≤ 9) (hf : Kzs2.fair m c = true) (hss : (sidesOf m)[k]? = some ss) : ∃ g : Side → Nat, (∀ s ∈ ss, s.1 ∈ Kzs2.places m ∧ s.2 ∈ Kzs2.places m) ∧
    (∀ s ∈ ss, isDoor m c 1 0 s = true → lastWith (sidesOf m) (rev s) (sidesOf m).length = some (g s)) ∧ (∀ s ∈ ss, isDoor m c 0 1 s = true → lastWith (sidesOf m) (rev s) (sidesOf m).length = some (g s)) ∧
    (Kzs2.toLines m c).nx.getD k 0 = told1 m c 1 0 g ss ∧ (Kzs2.toLines m c).bf.getD k 0 = told1 m c 0 1 g ss := by
  rcases point_cases hss with ⟨r, hr, rfl⟩ | ⟨j, hj, rfl, rfl⟩
  · have hr' := List.mem_of_getElem? hr
    exact ⟨goal m, fun s hs => sides_in hm hr' hs, fun s hs hd => room_goal (.inr ⟨rfl, rfl⟩) hm hf hr' hs hd, fun s hs hd => room_goal (.inl ⟨rfl, rfl⟩) hm hf hr' hs hd, nx_room hr, bf_room hr⟩
  · refine ⟨roomOf m, fun s hs => ?_, fun s hs _ => ?_, fun s hs _ => ?_, nx_outer hj, bf_outer hj⟩
    · obtain rfl := List.mem_singleton.mp hs
      exact outer_in hj
    · obtain rfl := List.mem_singleton.mp hs
      exact outer_room hm hj
    · obtain rfl := List.mem_singleton.mp hs
      exact outer_room hm hj
theorem told1_some {m : Nat} {c : List Nat} {x y w : Nat} {g : Side → Nat} {ss : List Side} (h : told1 m c x y g ss = w + 1) : ∃ s, s ∈ ss ∧ isDoor m c x y s = true ∧ g s = w := by
  unfold told1 at h
  cases q : ss.find? (isDoor m c x y) with
  | none =>
    rw [q] at h
    cases h
  | some s =>
    rw [q] at h
    exact ⟨s, List.mem_of_find?_eq_some q, List.find?_some q, Nat.succ.inj h⟩
theorem told1_of {m k : Nat} {c : List Nat} {x y : Nat} {g : Side → Nat} {ss : List Side} {s : Side} (hxy : x ≠ y) (h : (sidesOf m)[k]? = some ss) (hs : s ∈ ss) (hd : isDoor m c x y s = true) : told1 m c x y g ss = g s + 1 := by
  unfold told1
  cases q : ss.find? (isDoor m c x y) with
  | none => exact absurd hd (by rw [List.find?_eq_none] at q; exact q s hs)
  | some t => rw [one_door hxy h hs (List.mem_of_find?_eq_some q) hd (List.find?_some q)]
theorem lines_lt {m v : Nat} {c : List Nat} {w : Nat} (h : (Kzs2.toLines m c).nx.getD v 0 = w + 1) : v < (sidesOf m).length := by
  rw [← nx_len m c]
  refine Nat.lt_of_not_le fun k => ?_
  rw [List.getD_eq_getElem?_getD, List.getElem?_eq_none k] at h
  cases h
theorem bf_len (m : Nat) (c : List Nat) : (Kzs2.toLines m c).bf.length = (sidesOf m).length := by
  unfold Kzs2.toLines
  rw [sidesOf_len, List.length_append, List.length_map, List.length_map, List.length_range]
theorem lines_lt' {m v : Nat} {c : List Nat} {w : Nat} (h : (Kzs2.toLines m c).bf.getD v 0 = w + 1) : v < (sidesOf m).length := by
  rw [← bf_len m c]
  refine Nat.lt_of_not_le fun k => ?_
  rw [List.getD_eq_getElem?_getD, List.getElem?_eq_none k] at h
  cases h
theorem agree {m : Nat} {c : List Nat} (hm : m ≤ 9) (hf : Kzs2.fair m c = true) (v w : Nat) : (Kzs2.toLines m c).nx.getD v 0 = w + 1 ↔ (Kzs2.toLines m c).bf.getD w 0 = v + 1 := by
  constructor
  · intro h
    have hv := lines_lt h
    have hss := List.getElem?_eq_getElem hv
    obtain ⟨g, _, g1, _, g3, _⟩ := point_row hm hf hss
    rw [g3] at h
    obtain ⟨s, hs, hd, rfl⟩ := told1_some h
    have q := lastWith_in (g1 s hs hd)
    have hss' := List.getElem?_eq_getElem q.1
    obtain ⟨g', _, _, k2, _, k4⟩ := point_row hm hf hss'
    have hr : rev s ∈ (sidesOf m)[g s] := by
      have := q.2
      rw [List.getD_eq_getElem?_getD, hss'] at this
      exact this
    rw [k4, told1_of (by decide) hss' hr (isDoor_rev hd)]
    have e1 := k2 _ hr (isDoor_rev hd)
    have e2 := owner hm hss hs
    rw [show rev (rev s) = s from rfl, e2] at e1
    rw [← Option.some.inj e1]
  · intro h
    have hv := lines_lt' h
    have hss := List.getElem?_eq_getElem hv
    obtain ⟨g, _, _, g2, _, g4⟩ := point_row hm hf hss
    rw [g4] at h
    obtain ⟨s, hs, hd, rfl⟩ := told1_some h
    have q := lastWith_in (g2 s hs hd)
    have hss' := List.getElem?_eq_getElem q.1
    obtain ⟨g', _, k1, _, k3, _⟩ := point_row hm hf hss'
    have hr : rev s ∈ (sidesOf m)[g s] := by
      have := q.2
      rw [List.getD_eq_getElem?_getD, hss'] at this
      exact this
    rw [k3, told1_of (by decide) hss' hr (isDoor_rev hd)]
    have e1 := k1 _ hr (isDoor_rev hd)
    have e2 := owner hm hss hs
    rw [show rev (rev s) = s from rfl, e2] at e1
    rw [← Option.some.inj e1]
/-- so one side of a step tells it -/
theorem next_nx {m : Nat} {c : List Nat} (hm : m ≤ 9) (hf : Kzs2.fair m c = true) {v w : Nat} : next (Kzs2.toLines m c) v = some w ↔ (Kzs2.toLines m c).nx.getD v 0 = w + 1 := by
  rw [next_iff]
  exact ⟨fun h => h.1, fun h => ⟨h, (agree hm hf v w).mp h⟩⟩
theorem before_bf {m : Nat} {c : List Nat} (hm : m ≤ 9) (hf : Kzs2.fair m c = true) {v w : Nat} : before (Kzs2.toLines m c) v = some w ↔ (Kzs2.toLines m c).bf.getD v 0 = w + 1 := by
  rw [before_iff]
  exact ⟨fun h => h.1, fun h => ⟨h, (agree hm hf w v).mpr h⟩⟩
theorem next_val {m : Nat} {c : List Nat} (hm : m ≤ 9) (hf : Kzs2.fair m c = true) (v : Nat) : next (Kzs2.toLines m c) v = if (Kzs2.toLines m c).nx.getD v 0 = 0 then none else some ((Kzs2.toLines m c).nx.getD v 0 - 1) := by
  by_cases h : (Kzs2.toLines m c).nx.getD v 0 = 0
  · rw [if_pos h]
    cases q : next (Kzs2.toLines m c) v with
    | none => rfl
    | some w =>
      have := (next_nx hm hf).mp q
      omega
  · rw [if_neg h]
    exact (next_nx hm hf).mpr (by omega)
theorem before_val {m : Nat} {c : List Nat} (hm : m ≤ 9) (hf : Kzs2.fair m c = true) (v : Nat) : before (Kzs2.toLines m c) v = if (Kzs2.toLines m c).bf.getD v 0 = 0 then none else some ((Kzs2.toLines m c).bf.getD v 0 - 1) := by
  by_cases h : (Kzs2.toLines m c).bf.getD v 0 = 0
  · rw [if_pos h]
    cases q : before (Kzs2.toLines m c) v with
    | none => rfl
    | some w =>
      have := (before_bf hm hf).mp q
      omega
  · rw [if_neg h]
    exact (before_bf hm hf).mpr (by omega)
end Tri

/-! ### Y. What is due of first, other, way, corners, by cases -/
namespace Tri
open Kzs1 (Lines next before size)
abbrev Refused (m : Int) (c : List Int) : Prop := ¬ ((1 ≤ m ∧ m ≤ 9) ∧ Kzs2.fair m.toNat (c.map Int.toNat) = true)
theorem f_first_no (m : Int) (c : List Int) (h : Refused m c) : PyKzs2.first m c = [-22] := by
  show (Kzs2.answer (.first m.toNat (Kzs2Neutral.natsOf c))).value :: (Kzs2.answer (.first m.toNat (Kzs2Neutral.natsOf c))).nums = [-22]
  have e : Kzs2.answer (.first m.toNat (Kzs2Neutral.natsOf c)) = Kzs1.say (-22) := by
    rw [Kzs2.answer]
    exact withFair_no h _
  rw [e]
  rfl
theorem f_other_no (m k : Int) (c : List Int) (h : Refused m c) : PyKzs2.other m k c = [-22] := by
  show (Kzs2.answer (.other m.toNat k.toNat (Kzs2Neutral.natsOf c))).value :: (Kzs2.answer (.other m.toNat k.toNat (Kzs2Neutral.natsOf c))).nums = [-22]
  have e : Kzs2.answer (.other m.toNat k.toNat (Kzs2Neutral.natsOf c)) = Kzs1.say (-22) := by
    rw [Kzs2.answer]
    exact withFair_no h _
  rw [e]
  rfl
theorem f_way_no (m k : Int) (c : List Int) (h : Refused m c) : PyKzs2.way m k c = [-22] := by
  show (Kzs2.answer (.way m.toNat k.toNat (Kzs2Neutral.natsOf c))).value :: (Kzs2.answer (.way m.toNat k.toNat (Kzs2Neutral.natsOf c))).nums = [-22]
  have e : Kzs2.answer (.way m.toNat k.toNat (Kzs2Neutral.natsOf c)) = Kzs1.say (-22) := by
    rw [Kzs2.answer]
    exact withFair_no h _
  rw [e]
  rfl
section
variable {n : Nat} {c : List Int} (h : 1 ≤ n ∧ n ≤ 9) (hf : Kzs2.fair n (c.map Int.toNat) = true)
include h hf
theorem f_first : PyKzs2.first (n : Int) c = [match Kzs2.first n (c.map Int.toNat) with
    | some k => (k : Int)
    | none => -33] := by
  show (Kzs2.answer (.first n (Kzs2Neutral.natsOf c))).value :: (Kzs2.answer (.first n (Kzs2Neutral.natsOf c))).nums = _
  have e : Kzs2.answer (.first n (Kzs2Neutral.natsOf c)) = (match Kzs2.first n (Kzs2Neutral.natsOf c) with
    | some k => Kzs1.say (k : Nat)
    | none => Kzs1.say (-33)) := by
    rw [Kzs2.answer]
    exact withFair_yes h hf _
  rw [e]
  show _ = [match Kzs2.first n (Kzs2Neutral.natsOf c) with
    | some k => (k : Int)
    | none => -33]
  cases Kzs2.first n (Kzs2Neutral.natsOf c) with
  | none => rfl
  | some k => rfl
theorem f_other (k : Nat) : PyKzs2.other (n : Int) (k : Int) c = if (sidesOf n).length ≤ k then [-2] else if Kzs1.isEnd (Kzs2.toLines n (c.map Int.toNat)) k = false then [-33] else [(Kzs1.other (Kzs2.toLines n (c.map Int.toNat)) k : Int), (((Kzs1.line (Kzs2.toLines n (c.map Int.toNat)) k).length - 1 : Nat) : Int)] := by
  show (Kzs2.answer (.other n k (Kzs2Neutral.natsOf c))).value :: (Kzs2.answer (.other n k (Kzs2Neutral.natsOf c))).nums = _
  have e : Kzs2.answer (.other n k (Kzs2Neutral.natsOf c)) = if Kzs1.size (Kzs2.toLines n (Kzs2Neutral.natsOf c)) ≤ k then Kzs1.say (-2) else if Kzs1.isEnd (Kzs2.toLines n (Kzs2Neutral.natsOf c)) k = false then Kzs1.say (-33) else ⟨(Kzs1.other (Kzs2.toLines n (Kzs2Neutral.natsOf c)) k : Nat), [(((Kzs1.line (Kzs2.toLines n (Kzs2Neutral.natsOf c)) k).length - 1 : Nat) : Int)]⟩ := by
    rw [Kzs2.answer]
    exact withFair_yes h hf _
  have es : Kzs1.size (Kzs2.toLines n (Kzs2Neutral.natsOf c)) = (sidesOf n).length := nx_len _ _
  rw [e, es]
  show _ = if (sidesOf n).length ≤ k then [-2] else if Kzs1.isEnd (Kzs2.toLines n (Kzs2Neutral.natsOf c)) k = false then [-33] else [(Kzs1.other (Kzs2.toLines n (Kzs2Neutral.natsOf c)) k : Int), (((Kzs1.line (Kzs2.toLines n (Kzs2Neutral.natsOf c)) k).length - 1 : Nat) : Int)]
  split
  · rfl
  · split
    · rfl
    · rfl
theorem f_way (k : Nat) : PyKzs2.way (n : Int) (k : Int) c = if (sidesOf n).length ≤ k then [-2] else if Kzs1.isEnd (Kzs2.toLines n (c.map Int.toNat)) k = false then [-33] else ((Kzs1.line (Kzs2.toLines n (c.map Int.toNat)) k).length : Int) :: (Kzs1.line (Kzs2.toLines n (c.map Int.toNat)) k).map fun (x : Nat) => (x : Int) := by
  show (Kzs2.answer (.way n k (Kzs2Neutral.natsOf c))).value :: (Kzs2.answer (.way n k (Kzs2Neutral.natsOf c))).nums = _
  have e : Kzs2.answer (.way n k (Kzs2Neutral.natsOf c)) = if Kzs1.size (Kzs2.toLines n (Kzs2Neutral.natsOf c)) ≤ k then Kzs1.say (-2) else if Kzs1.isEnd (Kzs2.toLines n (Kzs2Neutral.natsOf c)) k = false then Kzs1.say (-33) else Kzs1.told (Kzs1.ints (Kzs1.line (Kzs2.toLines n (Kzs2Neutral.natsOf c)) k)) := by
    rw [Kzs2.answer]
    exact withFair_yes h hf _
  have es : Kzs1.size (Kzs2.toLines n (Kzs2Neutral.natsOf c)) = (sidesOf n).length := nx_len _ _
  rw [e, es]
  show _ = if (sidesOf n).length ≤ k then [-2] else if Kzs1.isEnd (Kzs2.toLines n (Kzs2Neutral.natsOf c)) k = false then [-33] else ((Kzs1.line (Kzs2.toLines n (Kzs2Neutral.natsOf c)) k).length : Int) :: (Kzs1.line (Kzs2.toLines n (Kzs2Neutral.natsOf c)) k).map fun (x : Nat) => (x : Int)
  split
  · rfl
  · split
    · rfl
    · unfold Kzs1.told Kzs1.ints
      rw [List.length_map]
end
theorem f_corners_no (m k : Int) (h : ¬ (1 ≤ m ∧ m ≤ 9)) : PyKzs2.corners m k = [-22] := by
  show (Kzs2.answer (.corners m.toNat k.toNat)).value :: (Kzs2.answer (.corners m.toNat k.toNat)).nums = [-22]
  have e : Kzs2.answer (.corners m.toNat k.toNat) = Kzs1.say (-22) := if_pos (by unfold Kzs2.most; omega)
  rw [e]
  rfl
theorem f_corners (n k : Nat) (h : 1 ≤ n ∧ n ≤ 9) : PyKzs2.corners (n : Int) (k : Int) = match (Kzs2.rooms n)[k]? with
    | none => [-2]
    | some r => 9 :: (Kzs2.corners r).flatMap fun p => [(p.i : Int), (p.j : Int), ((n - p.i - p.j : Nat) : Int)] := by
  show (Kzs2.answer (.corners n k)).value :: (Kzs2.answer (.corners n k)).nums = _
  have e : Kzs2.answer (.corners n k) = match (Kzs2.rooms n)[k]? with
    | none => Kzs1.say (-2)
    | some r => Kzs1.told ((Kzs2.corners r).flatMap fun p => [(p.i : Int), (p.j : Int), ((n - p.i - p.j : Nat) : Int)]) := if_neg (by unfold Kzs2.most; omega)
  rw [e]
  cases q : (Kzs2.rooms n)[k]? with
  | none => rfl
  | some r =>
    obtain ⟨a, b, d, hc⟩ := corners_three r
    show ((Kzs1.told ((Kzs2.corners r).flatMap _)).value :: (Kzs1.told ((Kzs2.corners r).flatMap _)).nums) = 9 :: (Kzs2.corners r).flatMap _
    rw [hc]
    rfl
end Tri

/-! ### The text: places, scopes, readings (printed by tools/gen.py) -/
namespace Tri
open PySem PySem.Spec PyProof.Rows L2 Evl
def top (i : Nat) : Stmt := PySem.Challenge.pw_threecolours_s08_corners.main.body.getD i (.Pass ⟨0, 0, 0, 0⟩)
abbrev st_is_size : Stmt := top 6
theorem sc_is_size : FnScope ["m"] ["m"] (defScope st_is_size) := ⟨rfl, rfl, rfl, by decide +kernel, rfl, by decide +kernel, by decide +kernel⟩
abbrev st_small_triangles : Stmt := top 7
theorem sc_small_triangles : FnScope ["m", "listed", "j", "i"] ["m"] (defScope st_small_triangles) := ⟨rfl, rfl, rfl, by decide +kernel, rfl, by decide +kernel, by decide +kernel⟩
abbrev st_corners_of : Stmt := top 8
theorem sc_corners_of : FnScope ["room", "i", "j"] ["room"] (defScope st_corners_of) := ⟨rfl, rfl, rfl, by decide +kernel, rfl, by decide +kernel, by decide +kernel⟩
abbrev st_corners : Stmt := top 9
theorem sc_corners : FnScope ["m", "k", "listed", "numbers", "i", "j"] ["m", "k"] (defScope st_corners) := ⟨rfl, rfl, rfl, by decide +kernel, rfl, by decide +kernel, by decide +kernel⟩
structure Txt (K : PySem.W.Frag) (mg : Str → Option Value) : Prop where
  g_DOWN : ∃ u, mg "DOWN" = some u ∧ RelV (.int (0)) u
  g_LARGEST_SIZE : ∃ u, mg "LARGEST_SIZE" = some u ∧ RelV (.int (9)) u
  g_REFUSED_INPUT : ∃ u, mg "REFUSED_INPUT" = some u ∧ RelV (.int (-22)) u
  g_REFUSED_POINT : ∃ u, mg "REFUSED_POINT" = some u ∧ RelV (.int (-2)) u
  g_UP : ∃ u, mg "UP" = some u ∧ RelV (.int (1)) u
  n_len : mg "len" = none
  n_range : mg "range" = none
def t_is_size (K : PySem.W.Frag) : TS :=
  (tRet (tAndV (tOp rGeI (tVar 0) (tC (.int 1))) (tOp rLeI (tVar 0) (tC (.int (9))))))
def t_small_triangles (K : PySem.W.Frag) : TS :=
  (tSeq (tAsg (tLst tNil) (gName 1))
  (tSeq (tFor (iRng1 (tCons (tVar 0) tNil)) (gName 2)
  (tFor (iRng1 (tCons (tOp rSubI (tVar 0) (tVar 2)) tNil)) (gName 3)
  (tSeq (tDrop (tBM K "list" rAppend (tVar 1) (tCons (tTup (tCons (tVar 3) (tCons (tVar 2) (tCons (tC (.int (1))) tNil)))) tNil)))
  (tIfS (tTest (tOp rLtI (tOp rAddI (tVar 3) (tVar 2)) (tOp rSubI (tVar 0) (tC (.int 1)))))
  (tDrop (tBM K "list" rAppend (tVar 1) (tCons (tTup (tCons (tVar 3) (tCons (tVar 2) (tCons (tC (.int (0))) tNil)))) tNil)))
  tNext))))
  (tRet (tVar 1))))
def t_corners_of (K : PySem.W.Frag) : TS :=
  (tSeq (tAsg (tOp (rIxT K) (tVar 0) (tC (.int 0))) (gName 1))
  (tSeq (tAsg (tOp (rIxT K) (tVar 0) (tC (.int 1))) (gName 2))
  (tSeq (tIfS (tTest (tOp rEq (tOp (rIxT K) (tVar 0) (tC (.int 2))) (tC (.int (1)))))
  (tRet (tLst (tCons (tTup (tCons (tVar 1) (tCons (tVar 2) tNil))) (tCons (tTup (tCons (tOp rAddI (tVar 1) (tC (.int 1))) (tCons (tVar 2) tNil))) (tCons (tTup (tCons (tVar 1) (tCons (tOp rAddI (tVar 2) (tC (.int 1))) tNil))) tNil)))))
  tNext)
  (tRet (tLst (tCons (tTup (tCons (tOp rAddI (tVar 1) (tC (.int 1))) (tCons (tOp rAddI (tVar 2) (tC (.int 1))) tNil))) (tCons (tTup (tCons (tVar 1) (tCons (tOp rAddI (tVar 2) (tC (.int 1))) tNil))) (tCons (tTup (tCons (tOp rAddI (tVar 1) (tC (.int 1))) (tCons (tVar 2) tNil))) tNil))))))))
def t_corners (K : PySem.W.Frag) (sp_is_size : Sp) (sp_small_triangles : Sp) (sp_corners_of : Sp) : TS :=
  (tSeq (tIfS (tNot (tB (tCall sp_is_size [] E0 (tCons (tVar 0) tNil))))
  (tRet (tLst (tCons (tC (.int (-22))) tNil)))
  tNext)
  (tSeq (tAsg (tCall sp_small_triangles [] E0 (tCons (tVar 0) tNil)) (gName 2))
  (tSeq (tIfS (tTest (tOp rGeI (tVar 1) (tCB (rLenS K) (tCons (tVar 2) tNil))))
  (tRet (tLst (tCons (tC (.int (-2))) tNil)))
  tNext)
  (tSeq (tAsg (tLst tNil) (gName 3))
  (tSeq (tFor (iList K (tCall sp_corners_of [] E0 (tCons (tOp (rIxL K) (tVar 2) (tVar 1)) tNil))) (gTup K 2 (gCons (gName 4) (gCons (gName 5) gNil)))
  (tDrop (tBM K "list" rExtend (tVar 3) (tCons (tLst (tCons (tVar 4) (tCons (tVar 5) (tCons (tOp rSubI (tOp rSubI (tVar 0) (tVar 4)) (tVar 5)) tNil)))) tNil))))
  (tRet (tOp rCat (tLst (tCons (tCB (rLenS K) (tCons (tVar 3) tNil)) tNil)) (tVar 3))))))))
end Tri

/-! ### is_size -/
namespace Tri
open PySem PySem.Spec PyProof.Rows L2 Evl
def isSize (m : Int) : Bool := decide (1 ≤ m) && decide (m ≤ 9)
def sp_is_size (_ : PySem.W.Frag) : Sp := fun vs H Q _ => ∃ m : Int, vs = [.int m] ∧ RetV (.bl (isSize m)) H Q
section
variable {K : PySem.W.Frag} {vs : List V} {H : Hp} {Q : VK} {E : XK}
theorem len_is_size (h : sp_is_size K vs H Q E) : vs.length = 1 := by
  obtain ⟨m, rfl, _⟩ := h
  rfl
end
section
variable {K : PySem.W.Frag}
theorem read_is_size (vs : List V) (H : Hp) (Q : VK) (E : XK) (h : sp_is_size K vs H Q E) : t_is_size K { nx := fun _ H' => Q .non H', rt := Q } (start ["m"] vs) H := by
  obtain ⟨m, rfl, k⟩ := h
  exact s_ret (ev_andV (ev_op (ev_var rfl) ev_c rv_I0) fun _ => ev_op (ev_var rfl) ev_c rv_I0) k
end
end Tri

/-! ### small_triangles -/
namespace Tri
open PySem PySem.Spec PyProof.Rows L2 Evl
def roomV (r : Kzs2.Room) : List V := [.int r.i, .int r.j, .int (if r.u then 1 else 0)]
def sp_small_triangles (_ : PySem.W.Frag) : Sp := fun vs H Q _ => ∃ m : Nat, vs = [.int m] ∧ m ≤ 9 ∧ RetH ((Kzs2.rooms m).map roomV) H Q
section
variable {K : PySem.W.Frag} {vs : List V} {H : Hp} {Q : VK} {E : XK}
theorem len_small_triangles (h : sp_small_triangles K vs H Q E) : vs.length = 1 := by
  obtain ⟨m, rfl, _⟩ := h
  rfl
end
section
variable {K : PySem.W.Frag}
theorem room_up (i j : Nat) : roomV ⟨i, j, true⟩ = [.int i, .int j, .int 1] := rfl
theorem room_down (i j : Nat) : roomV ⟨i, j, false⟩ = [.int i, .int j, .int 0] := rfl
theorem read_small_triangles (vs : List V) (H : Hp) (Q : VK) (E : XK) (h : sp_small_triangles K vs H Q E) : t_small_triangles K { nx := fun _ H' => Q .non H', rt := Q } (start ["m", "listed", "j", "i"] vs) H := by
  obtain ⟨m, rfl, hm, k⟩ := h
  refine q_asgL (el_lst ea_nil (by decide)) fun p H1 hp e1 h1 => ?_
  refine q_forR1 (n := (m : Int)) (ea_cons (ev_var rfl) ea_nil) ⟨by omega, by omega⟩ (fun j σ' H' => ∃ v2 v3, σ' = [some (.int m), some (.ref p), v2, v3] ∧ Grown H H' p ((upTo m j).map roomV)) ?_ ?_ ?_
  · exact fun H2 e2 => ⟨none, none, rfl, (Grown.start hp e1 h1).ex e2⟩
  · rintro j σ' H' hj ⟨v2, v3, rfl, g⟩
    refine s_forR1 (n := (m : Int) - (j : Int)) (ea_cons (ev_op (ev_var rfl) (ev_var rfl) rv_I0) ea_nil) ⟨by omega, by omega⟩ (fun i σ'' H'' => ∃ v3, σ'' = [some (.int m), some (.ref p), some (.int j), v3] ∧ Grown H H'' p ((upTo m j ++ rowTo m j i).map roomV)) ?_ ?_ ?_
    · exact fun H2 e2 => ⟨v3, rfl, (g.ex e2).is (by show _ = (upTo m j ++ []).map roomV; rw [List.append_nil])⟩
    · rintro i σ'' H'' hi ⟨v3, rfl, g⟩
      have hl : ((upTo m j ++ rowTo m j i).map roomV).length ≤ 1000 := by
        rw [List.length_map, List.length_append]
        have a := upTo_len m j
        have b := rowTo_len m j i
        have c : 2 * m * j ≤ 18 * 9 := Nat.mul_le_mul (by omega) (by omega)
        omega
      refine q_push g (ev_var rfl) (eu_tup (ea_cons (ev_var rfl) (ea_cons (ev_var rfl) (ea_cons ev_c ea_nil))) (by show 3 ≤ 100000; omega)) (by omega) fun H2 g2 => ?_
      refine s_when (et_test (ev_op (ev_op (ev_var rfl) (ev_var rfl) rv_I0) (ev_op (ev_var rfl) ev_c rv_I0) rv_I0)) (fun hb H3 e3 => ?_) (fun hb H3 e3 => ?_)
      · have c : i + j + 2 ≤ m := by
          have := of_decide_eq_true hb
          omega
        refine s_push (g2.ex e3) (ev_var rfl) (eu_tup (ea_cons (ev_var rfl) (ea_cons (ev_var rfl) (ea_cons ev_c ea_nil))) (by show 3 ≤ 100000; omega)) (by rw [List.length_append]; show _ + 1 < 100000; omega) fun H4 g4 => ⟨_, rfl, g4.is ?_⟩
        rw [rowTo_succ, ← List.append_assoc, List.map_append (l₁ := upTo m j ++ rowTo m j i), List.append_assoc]
        have ec : cell m j i = [⟨i, j, true⟩, ⟨i, j, false⟩] := if_pos c
        rw [ec]
        rfl
      · have c : ¬ i + j + 2 ≤ m := by
          have := of_decide_eq_false hb
          omega
        refine ⟨_, rfl, (g2.ex e3).is ?_⟩
        rw [rowTo_succ, ← List.append_assoc, List.map_append (l₁ := upTo m j ++ rowTo m j i)]
        have ec : cell m j i = [⟨i, j, true⟩] := if_neg c
        rw [ec]
        rfl
    · rintro σ'' H'' ⟨v3, rfl, g⟩
      refine ⟨_, v3, rfl, g.is ?_⟩
      rw [upTo_succ, show ((m : Int) - (j : Int)).toNat = m - j by omega]
  · rintro σ' H' ⟨v2, v3, rfl, g⟩
    refine s_ret (ev_var rfl) fun H2 e2 => k p H2 ((g.ex e2).is ?_)
    rw [rooms_upTo]
    rfl
end
end Tri

/-! ### corners_of -/
namespace Tri
open PySem PySem.Spec PyProof.Rows L2 Evl
def pV (p : Kzs2.Place) : List V := [.int p.i, .int p.j]
def sp_corners_of (K : PySem.W.Frag) : Sp := fun vs H Q _ => ∃ (a : Addr) (r : Kzs2.Room), vs = [.ref a] ∧ SqT K H a (roomV r) ∧ RetH ((Kzs2.corners r).map pV) H Q
section
variable {K : PySem.W.Frag} {vs : List V} {H : Hp} {Q : VK} {E : XK}
theorem len_corners_of (h : sp_corners_of K vs H Q E) : vs.length = 1 := by
  obtain ⟨a, r, rfl, _⟩ := h
  rfl
end
section
variable {K : PySem.W.Frag}
theorem read_corners_of (vs : List V) (H : Hp) (Q : VK) (E : XK) (h : sp_corners_of K vs H Q E) : t_corners_of K { nx := fun _ H' => Q .non H', rt := Q } (start ["room", "i", "j"] vs) H := by
  obtain ⟨a, ⟨i, j, u⟩, rfl, hS, k⟩ := h
  refine q_asg (v := .int i) (ev_op (ev_var rfl) ev_c (rv_ixT (K := K) hS rfl)) fun H1 e1 => ?_
  refine q_asg (v := .int j) (ev_op (ev_var rfl) ev_c (rv_ixT (K := K) (ex_t e1 hS) rfl)) fun H2 e2 => ?_
  refine q_when (et_test (ev_op (ev_op (ev_var rfl) ev_c (rv_ixT (K := K) (ex_t (e1.trans e2) hS) rfl)) ev_c (rv_eq rfl))) (fun hb H3 e3 => ?_) (fun hb H3 e3 => ?_)
  · cases u with
    | false => cases hb
    | true => exact s_retH (eh_cons (eu_tup (ea_cons (ev_var rfl) (ea_cons (ev_var rfl) ea_nil)) (by show 2 ≤ 100000; omega)) (eh_cons (eu_tup (ea_cons (ev_op (ev_var rfl) ev_c rv_I0) (ea_cons (ev_var rfl) ea_nil)) (by show 2 ≤ 100000; omega))
        (eh_cons (eu_tup (ea_cons (ev_var rfl) (ea_cons (ev_op (ev_var rfl) ev_c rv_I0) ea_nil)) (by show 2 ≤ 100000; omega)) eh_nil))) (by show 3 ≤ 100000; omega) (k.go ((e1.trans e2).trans e3))
  · cases u with
    | true => cases hb
    | false => exact s_retH (eh_cons (eu_tup (ea_cons (ev_op (ev_var rfl) ev_c rv_I0) (ea_cons (ev_op (ev_var rfl) ev_c rv_I0) ea_nil)) (by show 2 ≤ 100000; omega)) (eh_cons (eu_tup (ea_cons (ev_var rfl) (ea_cons (ev_op (ev_var rfl) ev_c rv_I0) ea_nil)) (by show 2 ≤ 100000; omega))
        (eh_cons (eu_tup (ea_cons (ev_op (ev_var rfl) ev_c rv_I0) (ea_cons (ev_var rfl) ea_nil)) (by show 2 ≤ 100000; omega)) eh_nil))) (by show 3 ≤ 100000; omega) (k.go ((e1.trans e2).trans e3))
end
end Tri

/-! ### corners -/
namespace Tri
open PySem PySem.Spec PyProof.Rows L2 Evl
def sp_corners (_ : PySem.W.Frag) : Sp := fun vs _ Q _ => ∃ m k : Int, vs = [.int m, .int k] ∧ 0 ≤ k ∧ ∀ (H' : Hp) (p : Addr), H' p = some (.lst ((PyKzs2.corners m k).map V.int)) → Q (.ref p) H'
section
variable {K : PySem.W.Frag} {vs : List V} {H : Hp} {Q : VK} {E : XK}
theorem len_corners (h : sp_corners K vs H Q E) : vs.length = 2 := by
  obtain ⟨m, k, rfl, _⟩ := h
  rfl
end
/-- the numbers of places -/
def numsV (n : Nat) (l : List Kzs2.Place) : List V := l.flatMap fun p => [.int p.i, .int p.j, .int ((n - p.i - p.j : Nat) : Int)]
theorem numsV_ints (n : Nat) (l : List Kzs2.Place) : numsV n l = (l.flatMap fun p => [(p.i : Int), (p.j : Int), ((n - p.i - p.j : Nat) : Int)]).map V.int := by
  unfold numsV
  rw [List.map_flatMap]
  rfl
theorem numsV_len (n : Nat) (l : List Kzs2.Place) : (numsV n l).length = 3 * l.length := by
  induction l with
  | nil => rfl
  | cons r l ih =>
    show ([_, _, _] ++ numsV n l).length = _
    rw [List.length_append, ih, List.length_cons (as := l)]
    show 3 + _ = _
    omega
theorem take_more {α : Type} {x : α} {l : List α} {i : Nat} (h : l[i]? = some x) : l.take (i + 1) = l.take i ++ [x] := by
  rw [List.take_add_one, h]
  rfl
section
variable {K : PySem.W.Frag}
theorem place_le {m : Nat} {p : Kzs2.Place} (h : p ∈ Kzs2.places m) : p.i + p.j ≤ m := by
  unfold Kzs2.places at h
  rw [List.mem_flatMap] at h
  obtain ⟨j, hj, h⟩ := h
  rw [List.mem_map] at h
  obtain ⟨i, hi, rfl⟩ := h
  have := List.mem_range.mp hi
  have := List.mem_range.mp hj
  show i + j ≤ m
  omega
theorem read_corners (vs : List V) (H : Hp) (Q : VK) (E : XK) (h : sp_corners K vs H Q E) : t_corners K (sp_is_size K) (sp_small_triangles K) (sp_corners_of K) { nx := fun _ H' => Q .non H', rt := Q } (start ["m", "k", "listed", "numbers", "i", "j"] vs) H := by
  obtain ⟨m, i, rfl, hi, k⟩ := h
  refine q_when (b := !(isSize m)) (et_not (et_B (ev_call (ea_cons (ev_var rfl) ea_nil) fun H1 e Q q E => ⟨m, rfl, q⟩))) (fun hb H1 e1 => ?_) (fun hb H1 e1 => ?_)
  · refine s_retL (el_lst (ea_cons ev_c ea_nil) (by decide)) fun p H2 hp e2 h2 => k H2 p ?_
    rw [f_corners_no m i (fun c => by simp [isSize, c.1, c.2] at hb)]
    exact h2
  · have hs : 1 ≤ m ∧ m ≤ 9 := by
      have : isSize m = true := by simpa using hb
      simpa [isSize] using this
    obtain ⟨n, rfl⟩ : ∃ n : Nat, m = (n : Int) := ⟨m.toNat, by omega⟩
    obtain ⟨j, rfl⟩ : ∃ j : Nat, i = (j : Int) := ⟨i.toNat, by omega⟩
    have fc := f_corners n j (by omega)
    refine q_asgC (ea_cons (ev_var rfl) ea_nil) fun H2 e2 => ⟨n, rfl, by omega, fun p H3 g3 => ?_⟩
    obtain ⟨hp, e3, as, h3, hd⟩ := g3
    have hlen : as.length = (Kzs2.rooms n).length := by
      rw [hd.len, List.length_map]
    refine q_when (b := decide ((Kzs2.rooms n).length ≤ j)) (et_is (et_test (ev_op (ev_var rfl) (ev_len (xs := as.map V.ref) (ev_var rfl) (sq_of h3)) rv_I0)) ?_) (fun hb2 H4 e4 => ?_) (fun hb2 H4 e4 => ?_)
    · rw [List.length_map, hlen]
      exact decide_eq_decide.mpr (by omega)
    · have c1 := of_decide_eq_true hb2
      rw [List.getElem?_eq_none c1] at fc
      refine s_retL (el_lst (ea_cons ev_c ea_nil) (by decide)) fun q H5 hq e5 h5 => k H5 q ?_
      rw [fc]
      exact h5
    · have c1 : j < (Kzs2.rooms n).length := by
        have := of_decide_eq_false hb2
        omega
      have hr := List.getElem?_eq_getElem c1
      generalize (Kzs2.rooms n)[j] = r at hr
      rw [hr] at fc
      have hmem : r ∈ Kzs2.rooms n := List.mem_of_getElem? hr
      obtain ⟨p0, p1, p2, hc⟩ := corners_three r
      have hc3 : (Kzs2.corners r).length = 3 := by
        rw [hc]
        rfl
      have hja : j < as.length := by omega
      have hga : (as.map V.ref)[j]? = some (.ref as[j]) := by
        rw [List.getElem?_map, List.getElem?_eq_getElem hja]
        rfl
      obtain ⟨b, x, hbx, hx, hbt⟩ := hd.get hga
      cases hbx
      rw [List.getElem?_map, hr] at hx
      obtain rfl : roomV r = x := Option.some.inj hx
      refine q_asgL (el_lst ea_nil (by decide)) fun l H5 hl e5 h5 => ?_
      refine q_forLC (K := K) (ea_cons (ev_op (ev_var rfl) (ev_var rfl) (rv_ixL (K := K) (sq_of ((e4.trans e5) _ _ h3)) (atI_nat hga))) ea_nil) fun H6 e6 => ⟨_, r, rfl, st_of (((e4.trans e5).trans e6) _ _ hbt), fun q H7 g7 => ?_⟩
      obtain ⟨hq, e7, bs, h7, hd7⟩ := g7
      have hbl : bs.length = 3 := by
        rw [hd7.len, List.length_map, hc3]
      have hl7 : H7 l = some (.lst []) := e7 _ _ (e6 _ _ h5)
      have nql : q ≠ l := fun z => by
        rw [z, e6 _ _ h5] at hq
        cases hq
      refine ⟨q, rfl, ⟨_, sq_of h7⟩, list_go (xs := bs.map V.ref) (fun t σ' H' => ∃ v4 v5, σ' = [some (.int n), some (.int j), some (.ref p), some (.ref l), v4, v5] ∧ H' q = some (.lst (bs.map V.ref)) ∧ Held H' bs ((Kzs2.corners r).map pV) ∧ H' l = some (.lst (numsV n ((Kzs2.corners r).take t)))) ?_ ?_ ?_ ?_⟩
      · exact ⟨none, none, rfl, h7, hd7, hl7⟩
      · rintro t σ' H' _ ⟨v4, v5, rfl, a1, _⟩
        exact sq_of a1
      · rintro t z σ' H' hz ⟨v4, v5, rfl, a1, a2, a3⟩
        obtain ⟨b, y, rfl, hy, hb7⟩ := a2.get hz
        rw [List.getElem?_map] at hy
        cases hpc : (Kzs2.corners r)[t]? with
        | none =>
          rw [hpc] at hy
          cases hy
        | some c =>
          rw [hpc] at hy
          obtain rfl : pV c = y := Option.some.inj hy
          have hin := place_le (corner_in (by omega) hmem (List.mem_of_getElem? hpc))
          have ht : t < 3 := by
            have := (List.getElem?_eq_some_iff.mp hpc).1
            omega
          refine ⟨b, pV c, rfl, st_of hb7, rfl, .int c.i, [.int c.j], rfl, .int c.j, [], rfl, rfl, ?_⟩
          refine s_extL (K := K) a3 (ev_var rfl) (el_lst (ea_cons (ev_var rfl) (ea_cons (ev_var rfl) (ea_cons (ev_op (ev_op (ev_var rfl) (ev_var rfl) rv_I0) (ev_var rfl) rv_I0) ea_nil))) (by show 3 ≤ 100000; omega)) ?_ fun H8 e8 => ⟨_, _, rfl, ?_, ?_, ?_⟩
          · rw [numsV_len, List.length_take]
            show _ + 3 ≤ 100000
            omega
          · rw [upd_ne nql]
            exact e8 _ _ a1
          · exact (a2.ex e8).put (e8 _ _ a3)
          · rw [upd_same, take_more hpc]
            unfold numsV
            rw [List.flatMap_append, List.flatMap_cons, List.flatMap_nil, List.append_nil]
            show _ = some (HO.lst (_ ++ [V.int c.i, V.int c.j, V.int ((n - c.i - c.j : Nat) : Int)]))
            rw [show ((n - c.i - c.j : Nat) : Int) = (n : Int) - c.i - c.j by omega]
      · rintro σ' H' ⟨v4, v5, rfl, a1, a2, a3⟩
        rw [List.length_map, hbl, ← hc3, List.take_length] at a3
        refine s_retL (el_cat (el_lst (ea_cons (ev_len (ev_var rfl) (sq_of a3)) ea_nil) (by show 1 ≤ 100000; omega)) (ev_var rfl) a3 (by rw [numsV_len, hc3]; decide)) fun u H8 _ _ h8 => k H8 u ?_
        rw [h8, fc, numsV_len, hc3, List.map_cons, ← numsV_ints]
        rfl
theorem asked (K : PySem.W.Frag) (H : Hp) (xs : List V) (a : PySem.W.Codec.denoteAll PySem.Challenge.rw_threecolours_s08_corners.args) (hw : PySem.W.Codec.withinAll PySem.Challenge.rw_threecolours_s08_corners.args a = true)
    (hx : DwAll K H xs (PySem.W.Codec.encAll PySem.Challenge.rw_threecolours_s08_corners.args a)) :
    sp_corners K xs H (fun v H' => Dw K H' v (PySem.Challenge.rw_threecolours_s08_corners.ret.enc (PySem.W.Codec.app PySem.Challenge.rw_threecolours_s08_corners.args PySem.Challenge.rw_threecolours_s08_corners.f a))) fun _ _ _ => False := by
  cases hx with
  | cons h1 h2 =>
    cases h1
    cases h2 with
    | cons h3 h4 =>
      cases h3
      cases h4
      have q : (PySem.W.Codec.inInt 0 4294967295 a.1 && (PySem.W.Codec.inInt 0 4294967295 a.2.1 && true)) = true := hw
      rw [Bool.and_eq_true, Bool.and_eq_true] at q
      refine ⟨a.1, a.2.1, rfl, ?_, fun H' p hp => .lst (L2.SqL.of hp) (L2.dw_ints _)⟩
      have r := q.2.1
      unfold PySem.W.Codec.inInt at r
      rw [Bool.and_eq_true, decide_eq_true_eq] at r
      exact r.1
end
end Tri

/-! ### Each def holds its promise (printed by tools/gen.py): the derivation, then read_f -/
namespace Tri
open PySem PySem.Spec PyProof.Rows L2 Evl
section
variable {P : Program} {w : World} {K : PySem.W.Frag} {mg : Str → Option Value} {base : Heap}
theorem ok_is_size {f : Addr} {fd : FuncData} (F : Fun K "is_size" "is_size" st_is_size f fd) (T : Txt K mg) : FnOk P w K mg base CX0 1 f fd ["m"] (sp_is_size K) := by
  refine F.ok sc_is_size (fun vs H Q E h => len_is_size h) (fun cdv A outer s H vs Q E hr h => ⟨t_is_size K  , ?_, read_is_size vs H Q E h⟩)
  exact (pss_one (ps_ret (pe_and (pe_cmpR op_ge (pv 0) pe_int (nomark _)) (pe_one (pe_cmpR op_le (pv 0) (pe_g (by rfl) T.g_LARGEST_SIZE) (nomark _))))))
theorem ok_small_triangles {f : Addr} {fd : FuncData} (F : Fun K "small_triangles" "small_triangles" st_small_triangles f fd) (T : Txt K mg) : FnOk P w K mg base CX0 1 f fd ["m"] (sp_small_triangles K) := by
  refine F.ok sc_small_triangles (fun vs H Q E h => len_small_triangles h) (fun cdv A outer s H vs Q E hr h => ⟨t_small_triangles K  , ?_, read_small_triangles vs H Q E h⟩)
  exact (pss_cons (ps_set (i := 1) sc_small_triangles.nd rfl (Or.inl rfl) (pe_lst pa_nil))
      (pss_cons (ps_for PassesOwn.never rfl (pi_range1 (by rfl) T.n_range (pa_cons (pv 0) pa_nil)) (pg_name (i := 2) sc_small_triangles.nd rfl (Or.inl rfl))
      (pss_one (ps_for PassesOwn.never rfl (pi_range1 (by rfl) T.n_range (pa_cons (pe_op op_sub (pv 0) (pv 2)) pa_nil)) (pg_name (i := 3) sc_small_triangles.nd rfl (Or.inl rfl))
      (pss_cons (ps_expr (pe_bm PySem.F.plainAttrs_list PySem.F.slot_list_append PySem.F.type_list_append mt_append (pv 1) (pa_cons (pe_tup (pa_cons (pv 3) (pa_cons (pv 2) (pa_cons (pe_g (by rfl) T.g_UP) pa_nil)))) pa_nil)))
      (pss_one (ps_if (pt_cmpR op_lt (pe_op op_add (pv 3) (pv 2)) (pe_op op_sub (pv 0) pe_int) (nomark _))
      (pss_one (ps_expr (pe_bm PySem.F.plainAttrs_list PySem.F.slot_list_append PySem.F.type_list_append mt_append (pv 1) (pa_cons (pe_tup (pa_cons (pv 3) (pa_cons (pv 2) (pa_cons (pe_g (by rfl) T.g_DOWN) pa_nil)))) pa_nil))))
      pss_nil))))))
      (pss_one (ps_ret (pv 1)))))
theorem ok_corners_of {f : Addr} {fd : FuncData} (F : Fun K "corners_of" "corners_of" st_corners_of f fd) (T : Txt K mg) : FnOk P w K mg base CX0 1 f fd ["room"] (sp_corners_of K) := by
  refine F.ok sc_corners_of (fun vs H Q E h => len_corners_of h) (fun cdv A outer s H vs Q E hr h => ⟨t_corners_of K  , ?_, read_corners_of vs H Q E h⟩)
  exact (pss_cons (ps_set (i := 1) sc_corners_of.nd rfl (Or.inl rfl) (pe_ix ix_tup (pv 0) pe_int (fun _ _ => rfl)))
      (pss_cons (ps_set (i := 2) sc_corners_of.nd rfl (Or.inl rfl) (pe_ix ix_tup (pv 0) pe_int (fun _ _ => rfl)))
      (pss_cons (ps_if (pt_cmpR op_eq (pe_ix ix_tup (pv 0) pe_int (fun _ _ => rfl)) (pe_g (by rfl) T.g_UP) (nomark _))
      (pss_one (ps_ret (pe_lst (pa_cons (pe_tup (pa_cons (pv 1) (pa_cons (pv 2) pa_nil))) (pa_cons (pe_tup (pa_cons (pe_op op_add (pv 1) pe_int) (pa_cons (pv 2) pa_nil))) (pa_cons (pe_tup (pa_cons (pv 1) (pa_cons (pe_op op_add (pv 2) pe_int) pa_nil))) pa_nil))))))
      pss_nil)
      (pss_one (ps_ret (pe_lst (pa_cons (pe_tup (pa_cons (pe_op op_add (pv 1) pe_int) (pa_cons (pe_op op_add (pv 2) pe_int) pa_nil))) (pa_cons (pe_tup (pa_cons (pv 1) (pa_cons (pe_op op_add (pv 2) pe_int) pa_nil))) (pa_cons (pe_tup (pa_cons (pe_op op_add (pv 1) pe_int) (pa_cons (pv 2) pa_nil))) pa_nil)))))))))
theorem ok_corners {f : Addr} {fd : FuncData} (F : Fun K "corners" "corners" st_corners f fd) (T : Txt K mg) (h_is_size : Has P w K mg base 1 "is_size" ["m"] (sp_is_size K)) (h_small_triangles : Has P w K mg base 1 "small_triangles" ["m"] (sp_small_triangles K)) (h_corners_of : Has P w K mg base 1 "corners_of" ["room"] (sp_corners_of K)) : FnOk P w K mg base CX0 2 f fd ["m", "k"] (sp_corners K) := by
  refine F.ok sc_corners (fun vs H Q E h => len_corners h) (fun cdv A outer s H vs Q E hr h => ⟨t_corners K (sp_is_size K) (sp_small_triangles K) (sp_corners_of K) , ?_, read_corners vs H Q E h⟩)
  exact (pss_cons (ps_if (pt_not (pt_val (pe_own h_is_size (hr.mono (by decide)) (by rfl) (pa_cons (pv 0) pa_nil))))
      (pss_one (ps_ret (pe_lst (pa_cons (pe_g (by rfl) T.g_REFUSED_INPUT) pa_nil))))
      pss_nil)
      (pss_cons (ps_set (i := 2) sc_corners.nd rfl (Or.inl rfl) (pe_own h_small_triangles (hr.mono (by decide)) (by rfl) (pa_cons (pv 0) pa_nil)))
      (pss_cons (ps_if (pt_cmpR op_ge (pv 1) (pe_callB call_len_seq (by rfl) T.n_len PySem.boot_len (pa_cons (pv 2) pa_nil)) (nomark _))
      (pss_one (ps_ret (pe_lst (pa_cons (pe_g (by rfl) T.g_REFUSED_POINT) pa_nil))))
      pss_nil)
      (pss_cons (ps_set (i := 3) sc_corners.nd rfl (Or.inl rfl) (pe_lst pa_nil))
      (pss_cons (ps_for PassesOwn.never rfl (pi_list (pe_own h_corners_of (hr.mono (by decide)) (by rfl) (pa_cons (pe_ix ix_list (pv 2) (pv 1) (fun _ _ => rfl)) pa_nil))) (pg_tup rfl (pgs_cons (pg_name (i := 4) sc_corners.nd rfl (Or.inl rfl)) (pgs_cons (pg_name (i := 5) sc_corners.nd rfl (Or.inl rfl)) pgs_nil)))
      (pss_one (ps_expr (pe_bm PySem.F.plainAttrs_list PySem.F.slot_list_extend PySem.F.type_list_extend mt_extend (pv 3) (pa_cons (pe_lst (pa_cons (pv 4) (pa_cons (pv 5) (pa_cons (pe_op op_sub (pe_op op_sub (pv 0) (pv 4)) (pv 5)) pa_nil)))) pa_nil)))))
      (pss_one (ps_ret (pe_op op_cat (pe_lst (pa_cons (pe_callB call_len_seq (by rfl) T.n_len PySem.boot_len (pa_cons (pv 3) pa_nil)) pa_nil)) (pv 3)))))))))
end
end Tri

/-! ### The end (printed by tools/gen.py) -/
namespace Tri
open PySem PySem.Spec PyProof.Rows L2 Evl
theorem all_mk {P : Program} {w : World} {K : PySem.W.Frag} {h : Heap} {mg : Str → Option Value} {fa f1 f2 f3 f4 : Addr} (X : K.In h) (G : h.Ns mainGlobals mg) (hfa : mg "corners" = some (.ref fa))
    {od1 an1 od2 an2 od3 an3 od4 an4 : Option Addr} {sl1 sl2 sl3 sl4 : Array (Option Value)} {oc1 kV1 dc1 pm1 cd1 ct1 oc2 kV2 dc2 pm2 cd2 ct2 oc3 kV3 dc3 pm3 cd3 ct3 oc4 kV4 dc4 pm4 cd4 ct4 : Value} {tk0 tk1 tk2 tk3 tk4 : Tok}
    (a1 : PySem.W.nsIn K mainGlobals "is_size" = some (some (.ref f1))) (l1 : K.lookup f1 = some ⟨oc1, od1, .func (PySem.W.fnOf "is_size" "is_size" (defArgs st_is_size) (defBody st_is_size) (defScope st_is_size) .none kV1 dc1 pm1 an1 cd1 ct1), sl1⟩) (c1 : PySem.W.codeIn K cd1 "is_size" = true) (k1 : PySem.W.keepIn K (.ref f1) = true)
    (a2 : PySem.W.nsIn K mainGlobals "small_triangles" = some (some (.ref f2))) (l2 : K.lookup f2 = some ⟨oc2, od2, .func (PySem.W.fnOf "small_triangles" "small_triangles" (defArgs st_small_triangles) (defBody st_small_triangles) (defScope st_small_triangles) .none kV2 dc2 pm2 an2 cd2 ct2), sl2⟩) (c2 : PySem.W.codeIn K cd2 "small_triangles" = true) (k2 : PySem.W.keepIn K (.ref f2) = true)
    (a3 : PySem.W.nsIn K mainGlobals "corners_of" = some (some (.ref f3))) (l3 : K.lookup f3 = some ⟨oc3, od3, .func (PySem.W.fnOf "corners_of" "corners_of" (defArgs st_corners_of) (defBody st_corners_of) (defScope st_corners_of) .none kV3 dc3 pm3 an3 cd3 ct3), sl3⟩) (c3 : PySem.W.codeIn K cd3 "corners_of" = true) (k3 : PySem.W.keepIn K (.ref f3) = true)
    (a4 : PySem.W.nsIn K mainGlobals "corners" = some (some (.ref f4))) (l4 : K.lookup f4 = some ⟨oc4, od4, .func (PySem.W.fnOf "corners" "corners" (defArgs st_corners) (defBody st_corners) (defScope st_corners) .none kV4 dc4 pm4 an4 cd4 ct4), sl4⟩) (c4 : PySem.W.codeIn K cd4 "corners" = true) (k4 : PySem.W.keepIn K (.ref f4) = true)
    (u0 : PySem.W.nsIn K mainGlobals "DOWN" = some (some (.int (0) tk0)))
    (u1 : PySem.W.nsIn K mainGlobals "LARGEST_SIZE" = some (some (.int (9) tk1)))
    (u2 : PySem.W.nsIn K mainGlobals "REFUSED_INPUT" = some (some (.int (-22) tk2)))
    (u3 : PySem.W.nsIn K mainGlobals "REFUSED_POINT" = some (some (.int (-2) tk3)))
    (u4 : PySem.W.nsIn K mainGlobals "UP" = some (some (.int (1) tk4)))
    (z0 : PySem.W.nsIn K mainGlobals "len" = some none)
    (z1 : PySem.W.nsIn K mainGlobals "range" = some none)
    : ∃ fd : FuncData, (∀ (s : Shared) (us : List Value), us.length = (["m", "k"] : List Str).length → BindsTo s fd ⟨us, []⟩ ((["m", "k"] : List Str).zip us)) ∧ ∀ base : Heap, K.In base → base.Ns mainGlobals mg → FnOk P w K mg base CX0 2 fa fd ["m", "k"] (sp_corners K) := by
  have e := hfa.symm.trans (PySem.W.mg_of X G a4)
  cases e
  have T : Txt K mg := ⟨⟨_, PySem.W.mg_of X G u0, ⟨_, rfl⟩⟩, ⟨_, PySem.W.mg_of X G u1, ⟨_, rfl⟩⟩, ⟨_, PySem.W.mg_of X G u2, ⟨_, rfl⟩⟩, ⟨_, PySem.W.mg_of X G u3, ⟨_, rfl⟩⟩, ⟨_, PySem.W.mg_of X G u4, ⟨_, rfl⟩⟩, PySem.W.mg_none_of X G z0, PySem.W.mg_none_of X G z1⟩
  have F1 := fun_mk (st := st_is_size) l1 c1 k1
  have b1 := F1.binds (ps := ["m"]) fun _ _ _ _ _ _ us hl => match us, hl with | [_], _ => rfl
  have F2 := fun_mk (st := st_small_triangles) l2 c2 k2
  have b2 := F2.binds (ps := ["m"]) fun _ _ _ _ _ _ us hl => match us, hl with | [_], _ => rfl
  have F3 := fun_mk (st := st_corners_of) l3 c3 k3
  have b3 := F3.binds (ps := ["room"]) fun _ _ _ _ _ _ us hl => match us, hl with | [_], _ => rfl
  have F4 := fun_mk (st := st_corners) l4 c4 k4
  refine ⟨PySem.W.fnOf "corners" "corners" (defArgs st_corners) (defBody st_corners) (defScope st_corners) .none kV4 dc4 pm4 an4 cd4 ct4, fun s us hu => match us, hu with | [_, _], _ => .of_eq rfl, fun base _ _ => ?_⟩
  have h_is_size : Has P w K mg base 1 "is_size" ["m"] (sp_is_size K) := ⟨_, _, PySem.W.mg_of X G a1, ok_is_size F1 T, k1, b1⟩
  have h_small_triangles : Has P w K mg base 1 "small_triangles" ["m"] (sp_small_triangles K) := ⟨_, _, PySem.W.mg_of X G a2, ok_small_triangles F2 T, k2, b2⟩
  have h_corners_of : Has P w K mg base 1 "corners_of" ["room"] (sp_corners_of K) := ⟨_, _, PySem.W.mg_of X G a3, ok_corners_of F3 T, k3, b3⟩
  exact ok_corners F4 T h_is_size h_small_triangles h_corners_of
end Tri
open PySem PySem.W PyProof.Rows
set_option maxRecDepth 100000 in
set_option maxHeartbeats 8000000 in
theorem PySem.Challenge.cw_threecolours_s08_corners_holds : PySem.Challenge.rw_threecolours_s08_corners.Holds := by
  w_on; k_headS; (case hw => exact ⟨[.int 0, .int 0], by decide +kernel, by decide +kernel⟩)
  k_fillS
  refine L2.walk_specK (r := PySem.Challenge.rw_threecolours_s08_corners) (k := 2) (CX := L2.CX0) (ps := ["m", "k"]) (sp := Tri.sp_corners) (by decide +kernel) rfl rfl ⟨rfl, by decide, by decide⟩ (fun w h Y => PySem.W.kIn_of Y) ?F ?S (fun _ _ _ _ z => z)
  case F =>
    intro w mg fa h Y KX G hmg
    refine' Tri.all_mk KX G hmg ?a1 ?l1 ?c1 ?k1 ?a2 ?l2 ?c2 ?k2 ?a3 ?l3 ?c3 ?k3 ?a4 ?l4 ?c4 ?k4 ?u0 ?u1 ?u2 ?u3 ?u4 ?z0 ?z1
    (case a1 => k_is)
    (case l1 => k_is)
    (case c1 => k_is)
    (case k1 => k_is)
    (case a2 => k_is)
    (case l2 => k_is)
    (case c2 => k_is)
    (case k2 => k_is)
    (case a3 => k_is)
    (case l3 => k_is)
    (case c3 => k_is)
    (case k3 => k_is)
    (case a4 => k_is)
    (case l4 => k_is)
    (case c4 => k_is)
    (case k4 => k_is)
    (case u0 => k_is)
    (case u1 => k_is)
    (case u2 => k_is)
    (case u3 => k_is)
    (case u4 => k_is)
    (case z0 => k_is)
    (case z1 => k_is)
  case S =>
    intro K H xs a hO hwi hask hx
    exact Tri.asked K H xs a hwi hx
#print axioms PySem.Challenge.cw_threecolours_s08_corners_holds

