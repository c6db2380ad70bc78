package tests

import (
	"math"
	"reflect"
	"strings"
	"testing"

	"loop.example/springhead/impl"
)

// functions is all that the program answers.
func functions() map[string]any {
	return map[string]any{
		"NameOk": impl.NameOk, "AtomOk": impl.AtomOk, "AtomPut": impl.AtomPut, "AtomGet": impl.AtomGet,
		"RulePut": impl.RulePut, "RuleGet": impl.RuleGet, "AtomCmp": impl.AtomCmp,
		"ProgCheck": impl.ProgCheck, "ProgNames": impl.ProgNames, "ProgHeads": impl.ProgHeads,
		"ProgStrata": impl.ProgStrata, "ProgNeeds": impl.ProgNeeds,
		"FactsOk": impl.FactsOk, "FactsFit": impl.FactsFit, "FactsAdd": impl.FactsAdd,
		"FactsGone": impl.FactsGone, "FactsHas": impl.FactsHas,
		"ChangeOk": impl.ChangeOk, "ChangeOf": impl.ChangeOf, "ChangeDo": impl.ChangeDo,
		"ChangeBoth": impl.ChangeBoth, "ChangePut": impl.ChangePut, "ChangeGet": impl.ChangeGet,
		"Eval": impl.Eval, "Rounds": impl.Rounds, "Once": impl.Once, "Delta": impl.Delta,
		"AskOk": impl.AskOk, "AskVars": impl.AskVars, "Ask": impl.Ask, "AskPut": impl.AskPut,
		"AskGet": impl.AskGet, "AskRule": impl.AskRule,
		"ProofOk": impl.ProofOk, "ProofFind": impl.ProofFind, "ProofSize": impl.ProofSize,
		"ProofNeeds": impl.ProofNeeds, "ProofPut": impl.ProofPut,
		"BaseNew": impl.BaseNew, "BaseOk": impl.BaseOk, "BaseAt": impl.BaseAt, "TxnBegin": impl.TxnBegin,
		"TxnOk": impl.TxnOk, "TxnSees": impl.TxnSees, "TxnAdd": impl.TxnAdd, "TxnGone": impl.TxnGone,
		"TxnAsk": impl.TxnAsk, "TxnEnd": impl.TxnEnd,
		"Sum": impl.Sum, "LogPut": impl.LogPut, "LogGet": impl.LogGet, "LogBase": impl.LogBase,
		"ServeNew": impl.ServeNew, "ServeOk": impl.ServeOk, "ServeDo": impl.ServeDo, "ServePlay": impl.ServePlay,
		"ServeAsk": impl.ServeAsk, "Session": impl.Session,
	}
}

// wild is any value of a type, seldom one that is ok.
func (d *dice) wild(kind reflect.Type) reflect.Value {
	out := reflect.New(kind).Elem()
	switch kind.Kind() {
	case reflect.Bool:
		out.SetBool(d.roll(2) == 0)
	case reflect.Int:
		out.SetInt([]int64{-1, 0, 1, 2, 7, 8, -2, math.MinInt64, math.MaxInt64}[d.roll(9)])
	case reflect.String:
		out.SetString(d.one("", "a", "b", "p", "X", "not", "Xy", "abcdefghi", "a()", "p(a,X)", "p(a) if q(X) and not r()", "-a() +b() ", "+b() -a() ", "\xff\x00", ",", "((", " if "))
	case reflect.Slice:
		if d.roll(5) == 0 {
			return out
		}
		count := d.roll(6)
		if kind.Elem() == reflect.TypeFor[impl.Proof]() {
			// A proof that has more than one in it on average would have no end.
			count = d.roll(2) * d.roll(4)
		}
		for range count {
			out.Set(reflect.Append(out, d.wild(kind.Elem())))
		}
	case reflect.Struct:
		for i := range kind.NumField() {
			out.Field(i).Set(d.wild(kind.Field(i).Type))
		}
	}
	return out
}

// tame is a value of a type that is ok, mostly; half of all rules, facts and changes fit each other.
func (d *dice) tame(kind reflect.Type) reflect.Value {
	if d.roll(2) == 0 {
		switch kind {
		case reflect.TypeFor[[]impl.Rule]():
			return reflect.ValueOf(d.evalRules(5, 2))
		case reflect.TypeFor[[]impl.Atom]():
			return reflect.ValueOf(d.evalFacts(8))
		case reflect.TypeFor[impl.Change]():
			return reflect.ValueOf(d.evalChange(5))
		}
	}
	switch kind {
	case reflect.TypeFor[string]():
		return reflect.ValueOf(d.one(d.name(), impl.AtomPut(d.atom()), impl.RulePut(d.rule()), impl.ChangePut(d.change(5)), impl.AskPut(d.askBody(4, "X", "Y")), logOf(d.changes(3)...), logOf(d.evalChange(3))))
	case reflect.TypeFor[impl.Atom]():
		if d.roll(2) == 0 {
			return reflect.ValueOf(d.atom())
		}
		return reflect.ValueOf(d.fact())
	case reflect.TypeFor[impl.Rule]():
		return reflect.ValueOf(d.rule())
	case reflect.TypeFor[[]impl.Atom]():
		return reflect.ValueOf(d.facts(8))
	case reflect.TypeFor[[]impl.Rule]():
		return reflect.ValueOf(d.fineRules(4))
	case reflect.TypeFor[impl.Change]():
		return reflect.ValueOf(d.change(8))
	case reflect.TypeFor[[]impl.Part]():
		return reflect.ValueOf(d.askBody(impl.BodyMax, "X", "Y", "Z"))
	case reflect.TypeFor[impl.Proof]():
		return reflect.ValueOf(d.anyProof(3))
	case reflect.TypeFor[impl.Base]():
		return reflect.ValueOf(d.past(d.roll(4)).base)
	case reflect.TypeFor[impl.Txn]():
		return reflect.ValueOf(impl.Txn{From: d.roll(4), Change: d.evalChange(3)})
	case reflect.TypeFor[impl.Server]():
		return reflect.ValueOf(d.served(d.roll(4)).server())
	case reflect.TypeFor[impl.Event]():
		return reflect.ValueOf(d.event(d.served(0)))
	case reflect.TypeFor[[]impl.Event]():
		return reflect.ValueOf(d.events(servedNew(nil), 12))
	case reflect.TypeFor[[]string]():
		return reflect.ValueOf(d.lines(servedNew(nil), 12))
	}
	return d.wild(kind)
}

// roomy copies a value so that behind the end of each of its lists there is room, with something in it.
func roomy(v reflect.Value) reflect.Value {
	return rebuild(v, func(list reflect.Value) reflect.Value {
		if list.IsNil() {
			return list
		}
		room := reflect.MakeSlice(list.Type(), list.Len()+3, list.Len()+3)
		for i := range list.Len() {
			room.Index(i).Set(roomy(list.Index(i)))
		}
		for i := range 3 {
			room.Index(list.Len() + i).Set(newDice(99).wild(list.Type().Elem()))
		}
		return room.Slice(0, list.Len())
	})
}

// whole copies a value, each list with all the room behind its end.
func whole(v reflect.Value) reflect.Value {
	return rebuild(v, func(list reflect.Value) reflect.Value {
		if list.IsNil() {
			return list
		}
		out := reflect.MakeSlice(list.Type(), list.Cap(), list.Cap())
		for i := range list.Cap() {
			out.Index(i).Set(whole(list.Slice(0, list.Cap()).Index(i)))
		}
		return out
	})
}

// span is memory from a place up to another one.
type span struct{ from, to uintptr }

// spans is the memory of all lists of a value, with the room behind their ends.
func spans(v reflect.Value) []span {
	var out []span
	switch v.Kind() {
	case reflect.Slice:
		if v.Cap() > 0 {
			from := v.Pointer()
			out = append(out, span{from, from + uintptr(v.Cap())*v.Type().Elem().Size()})
		}
		for i := range v.Cap() {
			out = append(out, spans(v.Slice(0, v.Cap()).Index(i))...)
		}
	case reflect.Struct:
		for i := range v.NumField() {
			out = append(out, spans(v.Field(i))...)
		}
	}
	return out
}

// meet says whether memory of an answer meets memory of arguments, or other memory of the answer.
func meet(answer, arguments []span) bool {
	for i, a := range answer {
		for _, b := range append(answer[i+1:len(answer):len(answer)], arguments...) {
			if a.from < b.to && b.from < a.to {
				return true
			}
		}
	}
	return false
}

// checkCall calls a function and looks at the memory of its arguments and answers.
func checkCall(t *testing.T, name string, f reflect.Value, args []reflect.Value) []reflect.Value {
	t.Helper()
	defer func() {
		if x := recover(); x != nil {
			t.Fatalf("%s%v: panic: %v", name, args, x)
		}
	}()
	var before []reflect.Value
	var held, made []span
	for _, a := range args {
		before = append(before, whole(a))
		held = append(held, spans(a)...)
	}
	answers := f.Call(args)
	for i, a := range args {
		if !reflect.DeepEqual(before[i].Interface(), whole(a).Interface()) {
			t.Fatalf("%s%v: argument %d was written into", name, args, i)
		}
	}
	for _, a := range answers {
		made = append(made, spans(a)...)
	}
	if meet(made, held) {
		t.Fatalf("%s%v: shared memory in %v", name, args, answers)
	}
	return answers
}

func TestMemoryAndPanics(t *testing.T) {
	for name, function := range functions() {
		f := reflect.ValueOf(function)
		d := newDice(40)
		for round := range 600 {
			var args []reflect.Value
			for i := range f.Type().NumIn() {
				value := d.tame(f.Type().In(i))
				if round%3 == 0 || round == 1 {
					value = d.wild(f.Type().In(i))
				} else if round == 2 {
					value = reflect.Zero(f.Type().In(i))
				}
				args = append(args, roomy(value))
			}
			first := checkCall(t, name, f, args)
			for i, again := range checkCall(t, name, f, args) {
				expect(t, name, again.Interface(), first[i].Interface())
			}
		}
	}
}

// TestMemoryOfProofs is of rules, facts and proofs that fit each other.
func TestMemoryOfProofs(t *testing.T) {
	d := newDice(41)
	forProofs(d, 60, true, func(list []impl.Rule, given, all []impl.Atom, proofs []impl.Proof) {
		room := func(x any) reflect.Value { return roomy(reflect.ValueOf(x)) }
		body := d.evalRule([]string{"e", "t", "q"}, []string{"s"}, 2).Body
		checkCall(t, "Ask", reflect.ValueOf(impl.Ask), []reflect.Value{room(all), room(body)})
		for _, p := range proofs {
			checkCall(t, "ProofFind", reflect.ValueOf(impl.ProofFind), []reflect.Value{room(list), room(given), room(p.Fact)})
			for _, q := range []impl.Proof{p, d.spoiled(p, all)} {
				checkCall(t, "ProofOk", reflect.ValueOf(impl.ProofOk), []reflect.Value{room(list), room(given), room(q)})
				for _, f := range []any{impl.ProofSize, impl.ProofNeeds, impl.ProofPut} {
					checkCall(t, "of a proof", reflect.ValueOf(f), []reflect.Value{room(q)})
				}
			}
		}
	})
}

// TestMemoryOfTransactions is of bases and transactions that fit each other.
func TestMemoryOfTransactions(t *testing.T) {
	d := newDice(42)
	forTxns(newDice(43), 150, func(p past, x impl.Txn, seen map[string]bool, a impl.Atom) {
		base, txn := reflect.ValueOf(p.base), reflect.ValueOf(x)
		for _, value := range []reflect.Value{txn, reflect.ValueOf(d.spoiledTxn(p))} {
			for name, f := range map[string]any{"TxnOk": impl.TxnOk, "TxnSees": impl.TxnSees, "TxnEnd": impl.TxnEnd} {
				checkCall(t, name, reflect.ValueOf(f), []reflect.Value{roomy(base), roomy(value)})
			}
			for name, f := range map[string]any{"TxnAdd": impl.TxnAdd, "TxnGone": impl.TxnGone} {
				checkCall(t, name, reflect.ValueOf(f), []reflect.Value{roomy(base), roomy(value), roomy(reflect.ValueOf(a))})
			}
		}
		body := reflect.ValueOf([]impl.Part{{Atom: a}, {Atom: readAtom("e(X,Y)")}})
		checkCall(t, "TxnAsk", reflect.ValueOf(impl.TxnAsk), []reflect.Value{roomy(base), roomy(txn), roomy(body)})
		for time := p.first() - 1; time <= p.base.Time+1; time++ {
			checkCall(t, "BaseAt", reflect.ValueOf(impl.BaseAt), []reflect.Value{roomy(base), reflect.ValueOf(time)})
		}
	})
}

// TestMemoryOfFullBases is of a base whose Hist has as many changes as are known, and room behind them.
func TestMemoryOfFullBases(t *testing.T) {
	p := pastOf(rules("r(X) if p(X)"), 0, toggles("p(a)", impl.HistMax)...)
	for _, c := range []impl.Change{comes("p(b)"), comes("p(a)"), {}} {
		for from := p.first() - 1; from <= p.base.Time+1; from++ {
			args := []reflect.Value{roomy(reflect.ValueOf(p.base)), roomy(reflect.ValueOf(impl.Txn{From: from, Change: c}))}
			checkCall(t, "TxnEnd", reflect.ValueOf(impl.TxnEnd), args)
		}
	}
	full := reflect.ValueOf(impl.Base{Given: numbered("p", 0, impl.GivenMax)})
	x := reflect.ValueOf(impl.Txn{Change: impl.Change{Comes: atoms("q(b)"), Goes: atoms("p(003)")}})
	answers := checkCall(t, "TxnAdd", reflect.ValueOf(impl.TxnAdd), []reflect.Value{roomy(full), roomy(x), roomy(reflect.ValueOf(readAtom("q(c)")))})
	expect(t, "TxnAdd", answers[1].Int(), int64(impl.TxnMany))
	list := roomy(reflect.ValueOf(p.base.Rules))
	checkCall(t, "LogBase", reflect.ValueOf(impl.LogBase), []reflect.Value{list, reflect.ValueOf(logOf(toggles("p(a)", 2*impl.HistMax+1)...))})
}

// TestServeMemory is of servers and events that fit each other.
func TestServeMemory(t *testing.T) {
	d := newDice(44)
	room := func(x any) reflect.Value { return roomy(reflect.ValueOf(x)) }
	for range 60 {
		s := d.served(d.roll(6))
		for range 6 {
			server := room(s.server())
			checkCall(t, "ServeOk", reflect.ValueOf(impl.ServeOk), []reflect.Value{server})
			for client := range impl.ClientMax {
				body := room([]impl.Part{{Atom: readAtom("e(X,Y)")}, {Not: true, Atom: d.evalAtom([]string{"e", "t"}, []string{"X", "Y"})}})
				checkCall(t, "ServeAsk", reflect.ValueOf(impl.ServeAsk), []reflect.Value{server, reflect.ValueOf(client), body})
			}
			for kind := range 9 {
				e := d.event(s)
				e.Kind = kind
				checkCall(t, "ServeDo", reflect.ValueOf(impl.ServeDo), []reflect.Value{server, room(e)})
			}
			s.happen(d.event(s))
		}
		list := s.base.Rules
		events := d.events(servedNew(list), 30)
		checkCall(t, "ServePlay", reflect.ValueOf(impl.ServePlay), []reflect.Value{room(list), room(events)})
	}
}

// TestServeMemoryThatIsShared is of a server all of whose lists have the same terms, and one change.
func TestServeMemoryThatIsShared(t *testing.T) {
	term := []impl.Term{{Name: "a"}}
	p, q, r := impl.Atom{Name: "p", Args: term}, impl.Atom{Name: "q", Args: term}, impl.Atom{Name: "r", Args: term}
	one, seen := impl.Change{Comes: []impl.Atom{p}}, []impl.Atom{r}
	more := impl.Change{Comes: []impl.Atom{q}}
	list := []impl.Rule{{Head: r, Body: []impl.Part{{Atom: p}}}, {Head: impl.Atom{Name: "t", Args: term}, Body: []impl.Part{{Atom: q}}}}
	s := impl.Server{Base: impl.Base{Rules: list, Time: 1, Given: one.Comes, Hist: []impl.Change{one}}, Log: logOf(one)}
	for client := range impl.ClientMax {
		s.Opens = append(s.Opens, impl.Open{Client: client, Txn: impl.Txn{From: 1, Change: more}})
		s.Watches = append(s.Watches, impl.Watch{Client: client, Name: "r", Seen: seen}, impl.Watch{Client: client, Name: "t"})
	}
	expect(t, "ok", impl.ServeOk(s), true)
	for kind := range 9 {
		for _, e := range []impl.Event{{}, {Client: 3, Atom: p, Name: "p", Bytes: 100}, {Client: 1, Atom: q, Name: "r"}, {Client: 2, Atom: r, Name: "t"}, {Client: 0, Atom: impl.Atom{Name: "x", Args: term}, Name: "0"}} {
			e.Kind = kind
			for _, args := range [][]reflect.Value{{reflect.ValueOf(s), reflect.ValueOf(e)}, {roomy(reflect.ValueOf(s)), roomy(reflect.ValueOf(e))}} {
				answers := checkCall(t, "ServeDo", reflect.ValueOf(impl.ServeDo), args)
				if kind == impl.ServeEnd {
					expect(t, "told", answers[1].Len(), impl.ClientMax)
				}
			}
		}
	}
	events := []impl.Event{watch(0, "x"), begin(1), {Kind: impl.ServeAdd, Client: 1, Atom: p}, {Kind: impl.ServeAdd, Client: 1, Atom: q}, end(1), watch(1, "r"), watch(2, "r"), begin(3)}
	checkCall(t, "ServeNew", reflect.ValueOf(impl.ServeNew), []reflect.Value{reflect.ValueOf(list)})
	checkCall(t, "ServePlay", reflect.ValueOf(impl.ServePlay), []reflect.Value{reflect.ValueOf(list), reflect.ValueOf(events)})
	checkCall(t, "ServeAsk", reflect.ValueOf(impl.ServeAsk), []reflect.Value{reflect.ValueOf(s), reflect.ValueOf(1), reflect.ValueOf([]impl.Part{{Atom: p}, {Atom: q}})})
}

func TestMemoryOfListsThatShare(t *testing.T) {
	shared := []impl.Term{{Name: "a"}}
	list := []impl.Atom{{Name: "a", Args: shared}, {Name: "b", Args: shared}}
	c := impl.Change{Comes: list, Goes: []impl.Atom{{Name: "c", Args: shared}}}
	in := func(args ...any) []reflect.Value {
		var out []reflect.Value
		for _, a := range args {
			out = append(out, reflect.ValueOf(a))
		}
		return out
	}
	one := impl.Atom{Name: "aa", Args: shared}
	checkCall(t, "FactsAdd", reflect.ValueOf(impl.FactsAdd), in(list, one))
	checkCall(t, "FactsAdd there", reflect.ValueOf(impl.FactsAdd), in(list, list[0]))
	checkCall(t, "FactsGone", reflect.ValueOf(impl.FactsGone), in(list, list[0]))
	checkCall(t, "FactsGone none", reflect.ValueOf(impl.FactsGone), in(list, one))
	checkCall(t, "ChangeOf", reflect.ValueOf(impl.ChangeOf), in(c.Comes, c.Goes))
	checkCall(t, "ChangeDo", reflect.ValueOf(impl.ChangeDo), in(list, c))
	checkCall(t, "ChangeBoth", reflect.ValueOf(impl.ChangeBoth), in(c, c))
	// The program's answers would share terms if it copied them from rules, or from what is given.
	heads := []impl.Rule{{Head: impl.Atom{Name: "d", Args: shared}}, {Head: impl.Atom{Name: "e", Args: shared}}}
	checkCall(t, "Eval", reflect.ValueOf(impl.Eval), in(heads, list))
	checkCall(t, "Rounds", reflect.ValueOf(impl.Rounds), in(heads, list))
	checkCall(t, "Once", reflect.ValueOf(impl.Once), in(heads, list))
	checkCall(t, "Delta", reflect.ValueOf(impl.Delta), in(heads, list, c))
	checkCall(t, "Delta of none", reflect.ValueOf(impl.Delta), in(heads, []impl.Atom(nil), c))
	body := []impl.Part{{Atom: list[0]}, {Atom: list[1]}, {Not: true, Atom: one}}
	checkCall(t, "AskRule", reflect.ValueOf(impl.AskRule), in("x", body))
	twice := impl.Proof{Fact: list[0], Kids: []impl.Proof{{Fact: list[0], Rule: -1}, {Fact: list[1], Rule: -1}}}
	checkCall(t, "ProofNeeds", reflect.ValueOf(impl.ProofNeeds), in(twice))
	same := []impl.Rule{{Head: impl.Atom{Name: "z"}, Body: body[:1]}, {Head: impl.Atom{Name: "y"}, Body: readRule("p() if z() and z() and a(a)").Body}}
	checkCall(t, "ProofFind", reflect.ValueOf(impl.ProofFind), in(same, list, readAtom("y()")))
	// A base whose facts, changes and rules all share terms, and a transaction that does so too.
	b := impl.Base{Rules: heads, Time: 2, Given: list, Hist: []impl.Change{{Comes: list[:1]}, {Comes: list[1:], Goes: c.Goes}}}
	x := impl.Txn{From: 1, Change: impl.Change{Comes: []impl.Atom{one}, Goes: list[:1]}}
	expect(t, "fits", impl.TxnOk(b, x), true)
	checkCall(t, "BaseNew", reflect.ValueOf(impl.BaseNew), in(heads))
	checkCall(t, "LogBase", reflect.ValueOf(impl.LogBase), in(heads, logOf(impl.Change{Comes: list})))
	for _, f := range []any{impl.TxnSees, impl.TxnEnd} {
		checkCall(t, "of a transaction", reflect.ValueOf(f), in(b, x))
		checkCall(t, "of a transaction that is not ok", reflect.ValueOf(f), in(b, impl.Txn{From: 2, Change: x.Change}))
	}
	for _, f := range []any{impl.TxnAdd, impl.TxnGone} {
		for _, a := range []impl.Atom{one, list[1], c.Goes[0], {Name: "x", Args: shared}, {Name: "d"}} {
			checkCall(t, "in a transaction", reflect.ValueOf(f), in(b, x, a))
		}
	}
	for _, time := range []int{0, 1, 2} {
		checkCall(t, "BaseAt", reflect.ValueOf(impl.BaseAt), in(b, time))
	}
}

// TestProofsThatAreTooGreat is of proofs that are too deep for calls, or have too many facts to be counted.
func TestProofsThatAreTooGreat(t *testing.T) {
	list, given := rules("p() if p()", "q() if q() and q()"), atoms("p()", "q()")
	deep := chain(1000000)
	expect(t, "deep", impl.ProofSize(deep), 1000000)
	expect(t, "deep", impl.ProofPut(deep), "")
	expect(t, "deep", impl.ProofOk(list, given, deep), false)
	expect(t, "deep", impl.ProofNeeds(deep), atoms("p()"))
	broad := impl.Proof{Fact: readAtom("q()"), Rule: -1}
	for range 100 {
		broad = impl.Proof{Fact: readAtom("q()"), Rule: 1, Kids: []impl.Proof{broad, broad}}
	}
	expect(t, "broad", impl.ProofPut(broad) == "", true)
	expect(t, "broad", impl.ProofOk(list, given, broad), false)
}

func TestLargeArguments(t *testing.T) {
	many := make([]impl.Rule, 100000)
	for i := range many {
		many[i] = readRule("p()")
	}
	expect(t, "rules", impl.ProgCheck(many), impl.ProgMany)
	many[len(many)-1] = impl.Rule{}
	expect(t, "rules, the last not ok", impl.ProgCheck(many), impl.ProgRule)
	wide := impl.Atom{Name: "p", Args: make([]impl.Term, 1000000)}
	expect(t, "atom", impl.AtomOk(wide), false)
	expect(t, "atom", impl.AtomPut(wide), "")
	list := make([]impl.Atom, 1000000)
	expect(t, "facts", impl.FactsOk(list), false)
	expect(t, "change", impl.ChangeOk(impl.Change{Comes: list, Goes: list}), false)
	_, ok := impl.Eval(many, list)
	expect(t, "Eval", ok, false)
	_, ok = impl.Delta(many, list, impl.Change{Comes: list, Goes: list})
	expect(t, "Delta", ok, false)
	expect(t, "Once", len(impl.Once(many, list)), 0)
	changes := make([]impl.Change, 1000000)
	expect(t, "BaseOk", impl.BaseOk(impl.Base{Rules: many, Given: list, Time: lastTime, Hist: changes}), false)
	expect(t, "BaseOk", impl.BaseOk(impl.Base{Time: lastTime, Hist: changes}), false)
	expect(t, "TxnOk", impl.TxnOk(impl.Base{}, impl.Txn{Change: impl.Change{Comes: list, Goes: list}}), false)
	expect(t, "LogPut", impl.LogPut(0, impl.Change{Comes: list}), "")
	server := impl.Server{Opens: make([]impl.Open, 1000000), Watches: make([]impl.Watch, 1000000)}
	expect(t, "ServeOk", impl.ServeOk(server), false)
	_, _, code := impl.ServeDo(server, begin(0))
	expect(t, "ServeDo", code, impl.TxnBad)
	expect(t, "ServePlay", impl.ServePlay(many, make([]impl.Event, 1000000)), impl.Server{})
	text := strings.Repeat("0:1\n", 1000000)
	expect(t, "ServeOk", impl.ServeOk(impl.Server{Log: text}), false)
	expect(t, "Session", impl.Session([]string{"rule " + text, text, "ask 0 " + text}), "what\nwhat\nno\n")
	_, size := impl.LogGet(text)
	expect(t, "LogGet", size, 0)
	_, ok = impl.LogBase(many, text)
	expect(t, "LogBase", ok, false)
}
