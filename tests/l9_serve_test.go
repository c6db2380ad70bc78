package tests

import (
	"maps"
	"math"
	"runtime"
	"slices"
	"strings"
	"sync"
	"testing"
	"time"

	"loop.example/springhead/impl"
)

// served is a server, told step by step as the document says it.
type served struct {
	past
	log     string
	opens   map[int]impl.Txn
	watches map[int]map[string]bool
}

// servedNew is a server without facts, of rules that are fine and of which not too much follows.
func servedNew(list []impl.Rule) served {
	return served{past: pastOf(list, 0), opens: map[int]impl.Txn{}, watches: map[int]map[string]bool{}}
}

// all is all facts that are given, or follow.
func (s served) all() []impl.Atom {
	all, _ := impl.Eval(s.base.Rules, s.base.Given)
	return all
}

// server is the server as the program has it.
func (s served) server() impl.Server {
	out := impl.Server{Base: s.base, Log: s.log}
	all := s.all()
	for client := range impl.ClientMax {
		if x, has := s.opens[client]; has {
			out.Opens = append(out.Opens, impl.Open{Client: client, Txn: x})
		}
		for _, name := range slices.Sorted(maps.Keys(s.watches[client])) {
			out.Watches = append(out.Watches, impl.Watch{Client: client, Name: name, Seen: ofName(all, name)})
		}
	}
	return out
}

// copied is a server that may be changed alone.
func (s served) copied() served {
	s.opens = maps.Clone(s.opens)
	watches := map[int]map[string]bool{}
	for client, names := range s.watches {
		watches[client] = maps.Clone(names)
	}
	s.watches = watches
	return s
}

// watch notes that a client watches a name.
func (s *served) watch(client int, name string) {
	if s.watches[client] == nil {
		s.watches[client] = map[string]bool{}
	}
	s.watches[client][name] = true
}

// turn is what TxnAdd and TxnGone do in a transaction, as the document says it.
func (s *served) turn(e impl.Event) int {
	x, has := s.opens[e.Client]
	if !has {
		return impl.TxnNone
	}
	if x.From < s.first() {
		return impl.TxnOld
	}
	seen, _ := s.sees(x)
	then, code := s.addCode(seen, e.Atom)
	if e.Kind == impl.ServeGone {
		then, code = s.goneCode(seen, e.Atom)
	}
	if code == impl.TxnFine {
		s.opens[e.Client] = impl.Txn{From: x.From, Change: changeBetween(s.given[x.From-s.first()], then)}
	}
	return code
}

// commit is what ServeEnd does.
func (s *served) commit(client int) ([]impl.Notice, int) {
	x, has := s.opens[client]
	if !has {
		return nil, impl.TxnNone
	}
	delete(s.opens, client)
	p, code := s.end(x)
	if code != impl.TxnFine || len(saidIn(x.Change)) == 0 {
		return nil, code
	}
	before := s.all()
	s.log += recordOf(s.base.Time, x.Change)
	s.past = p
	after := s.all()
	var told []impl.Notice
	for client := range impl.ClientMax {
		for _, name := range slices.Sorted(maps.Keys(s.watches[client])) {
			c := changeBetween(setOf(ofName(before, name)), setOf(ofName(after, name)))
			if len(saidIn(c)) > 0 {
				told = append(told, impl.Notice{Client: client, Name: name, Change: c})
			}
		}
	}
	return told, code
}

// record is what ServeEnd would put behind the log.
func (s served) record(client int) string {
	then := s.copied()
	then.commit(client)
	return then.log[len(s.log):]
}

// fall is what ServeFall does.
func (s *served) fall(client, bytes int) int {
	record := s.record(client)
	text := s.log + record[:min(max(bytes, 0), len(record))]
	list, size := impl.LogGet(text)
	p := pastOf(s.base.Rules, 0)
	for _, c := range list {
		then, code := p.end(impl.Txn{From: p.base.Time, Change: c})
		if code != impl.TxnFine || len(saidIn(c)) == 0 {
			return impl.TxnBad
		}
		p = then
	}
	*s = served{past: p, log: text[:size], opens: map[int]impl.Txn{}, watches: map[int]map[string]bool{}}
	return impl.TxnFine
}

// happen is what ServeDo does, of a server that is ok.
func (s *served) happen(e impl.Event) ([]impl.Notice, int) {
	if e.Client < 0 || e.Client >= impl.ClientMax {
		return nil, impl.TxnBad
	}
	_, has := s.opens[e.Client]
	switch e.Kind {
	case impl.ServeBegin:
		if has {
			return nil, impl.TxnThere
		}
		s.opens[e.Client] = impl.Txn{From: s.base.Time}
		return nil, impl.TxnFine
	case impl.ServeAdd, impl.ServeGone:
		return nil, s.turn(e)
	case impl.ServeEnd:
		return s.commit(e.Client)
	case impl.ServeDrop:
		delete(s.opens, e.Client)
		if !has {
			return nil, impl.TxnNone
		}
		return nil, impl.TxnFine
	case impl.ServeWatch:
		if !impl.NameOk(e.Name) {
			return nil, impl.TxnBad
		}
		if s.watches[e.Client][e.Name] {
			return nil, impl.TxnThere
		}
		s.watch(e.Client, e.Name)
		return nil, impl.TxnFine
	case impl.ServeFall:
		return nil, s.fall(e.Client, e.Bytes)
	}
	return nil, impl.TxnBad
}

// event is anything that may happen to a server, mostly something that is fine.
func (d *dice) event(s served) impl.Event {
	names := []string{"e", "t", "p", "q", "r", "s", "h"}
	e := impl.Event{Client: d.roll(impl.ClientMax), Atom: d.evalAtom(names, []string{"a", "b", "c"}), Name: d.one(names...), Bytes: d.roll(60) - 2}
	x, has := s.opens[e.Client]
	if seen, ok := s.sees(x); ok && d.roll(3) == 0 {
		e.Atom = d.anyFact(listOf(seen))
	}
	kinds := []int{impl.ServeBegin, impl.ServeBegin, impl.ServeBegin, impl.ServeWatch}
	if has {
		kinds = []int{impl.ServeAdd, impl.ServeAdd, impl.ServeGone, impl.ServeEnd, impl.ServeEnd}
	}
	e.Kind = kinds[d.roll(len(kinds))]
	switch d.roll(40) {
	case 0, 1, 2, 3:
		e.Kind = 1 + d.roll(6)
	case 6:
		e.Kind = impl.ServeFall
		e.Bytes = []int{e.Bytes, len(s.record(e.Client)), len(s.record(e.Client)) - 1, math.MaxInt}[d.roll(4)]
	case 7:
		e.Kind = []int{0, -1, 8, math.MinInt, math.MaxInt}[d.roll(5)]
	case 8:
		e.Client = []int{-1, impl.ClientMax, math.MinInt, math.MaxInt}[d.roll(4)]
	case 9:
		e.Name = d.one("", "not", "X", "abcdefghi", "a-b", "zz")
	}
	return e
}

// events is what may happen to a server, one behind the other.
func (d *dice) events(s served, most int) []impl.Event {
	var out []impl.Event
	for range d.roll(most + 1) {
		e := d.event(s)
		out = append(out, e)
		s.happen(e)
	}
	return out
}

// served is a server that was made up: its log need not be that of its base.
func (d *dice) served(commits int) served {
	s := servedNew(nil)
	s.past = d.past(commits)
	s.log = d.one("", "x", logOf(d.evalChange(3)), logOf(d.changes(3)...), logOf(comes("s()"), impl.Change{}), logOf(toggles("s()", 3)...)+"3:")
	for client := range impl.ClientMax {
		if x := d.txn(s.past); d.roll(2) == 0 {
			if _, ok := s.sees(x); ok {
				s.opens[client] = x
			}
		}
		if d.roll(6) == 0 && s.first() > 0 {
			// Of a time that is no longer known it may say anything.
			bad := badChanges()
			s.opens[client] = impl.Txn{From: d.roll(s.first()), Change: bad[d.roll(len(bad))]}
		}
		for range d.roll(4) {
			s.watch(client, d.one("e", "t", "p", "q", "r", "s", "h", "zz", "0"))
		}
	}
	return s
}

// happened is a server, what happened to it, and what is told then.
type happened struct {
	before impl.Server
	event  impl.Event
	after  impl.Server
	told   []impl.Notice
	code   int
}

// forWalks rolls what happens to servers, one behind the other: from ServeNew on, or from one that was made up.
func forWalks(seed uint64, walks, steps int, new bool, do func(s served, x happened)) {
	d := newDice(seed)
	for range walks {
		s := d.served(d.roll(8))
		if new {
			s = servedNew(s.base.Rules)
		}
		now := s.server()
		for range steps {
			e := d.event(s)
			after, told, code := impl.ServeDo(now, e)
			do(s, happened{before: now, event: e, after: after, told: told, code: code})
			s = s.copied()
			s.happen(e)
			now = after
		}
	}
}

func begin(client int) impl.Event {
	return impl.Event{Kind: impl.ServeBegin, Client: client}
}

func add(client int, fact string) impl.Event {
	return impl.Event{Kind: impl.ServeAdd, Client: client, Atom: readAtom(fact)}
}

func gone(client int, fact string) impl.Event {
	return impl.Event{Kind: impl.ServeGone, Client: client, Atom: readAtom(fact)}
}

func end(client int) impl.Event {
	return impl.Event{Kind: impl.ServeEnd, Client: client}
}

func drop(client int) impl.Event {
	return impl.Event{Kind: impl.ServeDrop, Client: client}
}

func watch(client int, name string) impl.Event {
	return impl.Event{Kind: impl.ServeWatch, Client: client, Name: name}
}

func fall(client, bytes int) impl.Event {
	return impl.Event{Kind: impl.ServeFall, Client: client, Bytes: bytes}
}

// mustDo is ServeDo of all, where each must be fine; it tells what the last told.
func mustDo(t *testing.T, s impl.Server, list ...impl.Event) (impl.Server, []impl.Notice) {
	t.Helper()
	var told []impl.Notice
	for _, e := range list {
		then, notices, code := impl.ServeDo(s, e)
		expect(t, []any{e, s}, code, impl.TxnFine)
		s, told = then, notices
	}
	return s, told
}

// expectServe fails unless an event has a code, tells nobody, and leaves a server.
func expectServe(t *testing.T, s impl.Server, e impl.Event, want int, left impl.Server) {
	t.Helper()
	then, told, code := impl.ServeDo(s, e)
	expect(t, []any{e, s}, code, want)
	expect(t, []any{e, s}, told, []impl.Notice(nil))
	expect(t, []any{e, s}, then, left)
}

// springRules is the rules of the document's example.
func springRules() []impl.Rule {
	return rules("t(X,Y) if e(X,Y)", "t(X,Z) if t(X,Y) and e(Y,Z)", "r(X) if p(X) and not t(a,X)")
}

// oneOfEach is a server whose clients have transactions of all sorts: 0 one with a change, 1 none, 2 one
// that clashes, 3 one that is too old. Client 1 watches a name.
func oneOfEach() served {
	s := servedNew(nil)
	s.past = pastOf(rules("r(X) if p(X)"), 9, comes("p(a)"), comes("s()"), goes("s()"))
	s.opens = map[int]impl.Txn{0: {From: 12, Change: comes("p(b)")}, 2: {From: 10, Change: comes("s()", "z()")}, 3: {From: 8, Change: goes("p(c)")}}
	s.watch(1, "r")
	return s
}

func TestServeLimitsAndKinds(t *testing.T) {
	expect(t, "limits", []int{impl.ClientMax, impl.PlayMax}, []int{4, 80})
	kinds := []int{impl.ServeBegin, impl.ServeAdd, impl.ServeGone, impl.ServeEnd, impl.ServeDrop, impl.ServeWatch, impl.ServeFall}
	expect(t, "kinds", kinds, []int{1, 2, 3, 4, 5, 6, 7})
}

// goodServers is servers that are ok, each at a limit.
func goodServers() map[string]impl.Server {
	out := map[string]impl.Server{"one of each": oneOfEach().server()}
	for name, b := range goodBases() {
		out[name] = impl.Server{Base: b}
	}
	full := oneOfEach()
	full.log = strings.Repeat("x", impl.LogMax)
	out["LogMax"] = full.server()
	for client := range impl.ClientMax {
		for _, name := range []string{"r", "p", "0", "zz", "abcdefgh"} {
			full.watch(client, name)
		}
		full.opens[client] = impl.Txn{From: 12}
	}
	out["all clients"] = full.server()
	for name, x := range map[string]impl.Txn{
		"the first time that is known": {From: 9}, "time 0": {From: 0, Change: comes("p(a)", "p(a)")}, "too old": {From: 8, Change: impl.Change{Comes: make([]impl.Atom, impl.AllMax+1)}},
	} {
		s := full.copied()
		s.opens[0] = x
		out[name] = s.server()
	}
	return out
}

// badServers is servers that are not ok, each by one thing.
func badServers() map[string]impl.Server {
	out := map[string]impl.Server{}
	for name, b := range badBases() {
		out[name] = impl.Server{Base: b}
	}
	spoil := func(name string, how func(s *impl.Server)) {
		s := oneOfEach().server()
		how(&s)
		out[name] = s
	}
	spoil("more than LogMax", func(s *impl.Server) { s.Log = strings.Repeat("x", impl.LogMax+1) })
	for _, client := range []int{-1, math.MinInt} {
		spoil("open of a client below 0", func(s *impl.Server) { s.Opens[0].Client = client })
		spoil("watch of a client below 0", func(s *impl.Server) { s.Watches[0].Client = client })
	}
	for _, client := range []int{impl.ClientMax, math.MaxInt} {
		spoil("open of ClientMax", func(s *impl.Server) { s.Opens[2].Client = client })
		spoil("watch of ClientMax", func(s *impl.Server) { s.Watches[0].Client = client })
	}
	spoil("opens in no order", func(s *impl.Server) { s.Opens[0], s.Opens[1] = s.Opens[1], s.Opens[0] })
	spoil("two opens of one", func(s *impl.Server) { s.Opens[1] = s.Opens[0] })
	spoil("one open twice", func(s *impl.Server) { s.Opens[1].Client = 0 })
	for _, from := range []int{-1, math.MinInt, 13, math.MaxInt} {
		spoil("open from "+short(from), func(s *impl.Server) { s.Opens[2].Txn = impl.Txn{From: from} })
	}
	for _, c := range append(badChanges(), comes("p(a)"), goes("p(b)"), comes("p()"), impl.Change{Comes: numbered("z", 0, impl.GivenMax)}) {
		spoil("open with "+short(c), func(s *impl.Server) { s.Opens[0].Txn.Change = c })
	}
	spoil("open that is not ok at its time", func(s *impl.Server) { s.Opens[1].Txn = impl.Txn{From: 11, Change: comes("s()")} })
	r := atoms("r(a)")
	more := impl.Watch{Client: 1, Name: "s"}
	spoil("a watch twice", func(s *impl.Server) { s.Watches = append(s.Watches, s.Watches[0]) })
	spoil("names in no order", func(s *impl.Server) { s.Watches = append([]impl.Watch{more}, s.Watches...) })
	spoil("clients in no order", func(s *impl.Server) { s.Watches = append(s.Watches, impl.Watch{Client: 0, Name: "s"}) })
	for _, name := range []string{"", "not", "R", "abcdefghi", "a b", "\xff"} {
		spoil("watch of "+name, func(s *impl.Server) { s.Watches = []impl.Watch{{Client: 1, Name: name}} })
	}
	for i, seen := range [][]impl.Atom{nil, atoms("r(b)"), atoms("p(a)"), atoms("r(a)", "r(b)"), atoms("r(a)", "r(a)"), atoms("p(a)", "r(a)"), atoms("r(X)"), make([]impl.Atom, 1), {{Name: "r", Args: []impl.Term{{Var: true, Name: "a"}}}}} {
		spoil("seen what is not "+short(i), func(s *impl.Server) { s.Watches[0].Seen = seen })
	}
	spoil("seen of another name", func(s *impl.Server) { s.Watches = append(s.Watches, impl.Watch{Client: 1, Name: "s", Seen: r}) })
	spoil("not seen", func(s *impl.Server) { s.Watches = []impl.Watch{{Client: 1, Name: "p"}} })
	return out
}

func TestServeOk(t *testing.T) {
	for name, s := range goodServers() {
		expect(t, name, impl.ServeOk(s), true)
	}
	for name, s := range badServers() {
		expect(t, name, impl.ServeOk(s), false)
	}
	d := newDice(120)
	for range 200 {
		s := d.served(d.roll(6))
		expect(t, s, impl.ServeOk(s.server()), true)
		// With anything else that was seen it is not.
		x := s.server()
		if len(x.Watches) > 0 {
			i := d.roll(len(x.Watches))
			x.Watches[i].Seen = listOf(turnedFacts(setOf(x.Watches[i].Seen), atoms(x.Watches[i].Name+"(z)")))
			expect(t, x, impl.ServeOk(x), false)
		}
	}
	expect(t, "nothing", impl.ServeOk(impl.Server{}), true)
}

// TestServeOfServersThatAreNot is of what each function answers of them.
func TestServeOfServersThatAreNot(t *testing.T) {
	body := readBody("p(X)")
	for name, s := range badServers() {
		for kind := range 9 {
			then, told, code := impl.ServeDo(s, impl.Event{Kind: kind, Atom: readAtom("z()"), Name: "z", Bytes: 3})
			expect(t, name, code, impl.TxnBad)
			expect(t, name, told, []impl.Notice(nil))
			expect(t, name, then, impl.Server{})
		}
		for client := -1; client <= impl.ClientMax; client++ {
			rows, ok := impl.ServeAsk(s, client, body)
			expect(t, name, ok, false)
			expect(t, name, rows, [][]string(nil))
		}
	}
}

func TestP47Codes(t *testing.T) {
	s := oneOfEach().server()
	expect(t, "ok", impl.ServeOk(s), true)
	for _, c := range []struct {
		e    impl.Event
		want int
	}{
		{begin(0), impl.TxnThere}, {begin(2), impl.TxnThere}, {begin(3), impl.TxnThere}, {begin(-1), impl.TxnBad}, {begin(impl.ClientMax), impl.TxnBad}, {begin(math.MinInt), impl.TxnBad}, {begin(math.MaxInt), impl.TxnBad},
		{add(1, "z()"), impl.TxnNone}, {gone(1, "p(a)"), impl.TxnNone}, {add(3, "z()"), impl.TxnOld}, {gone(3, "p(a)"), impl.TxnOld},
		// Of two codes that are both so the first.
		{add(1, "p()"), impl.TxnNone}, {add(1, "p(X)"), impl.TxnNone}, {gone(1, "p(X)"), impl.TxnNone}, {add(3, "p()"), impl.TxnOld}, {add(3, "p(X)"), impl.TxnOld}, {gone(3, "p(X)"), impl.TxnOld}, {gone(3, "zz()"), impl.TxnOld},
		{add(0, "p()"), impl.TxnBad}, {add(0, "p(X)"), impl.TxnBad}, {add(0, "r(a,b)"), impl.TxnBad}, {add(0, "not()"), impl.TxnBad}, {add(0, ""), impl.TxnBad},
		{add(0, "p(a)"), impl.TxnThere}, {add(0, "p(b)"), impl.TxnThere}, {gone(0, "p(c)"), impl.TxnNone}, {gone(0, "r(a)"), impl.TxnNone}, {gone(0, "p(X)"), impl.TxnNone}, {gone(0, ""), impl.TxnNone}, {gone(2, "z(a)"), impl.TxnNone},
		{end(1), impl.TxnNone}, {drop(1), impl.TxnNone}, {end(-1), impl.TxnBad}, {drop(impl.ClientMax), impl.TxnBad},
		{watch(0, ""), impl.TxnBad}, {watch(0, "not"), impl.TxnBad}, {watch(0, "R"), impl.TxnBad}, {watch(0, "abcdefghi"), impl.TxnBad}, {watch(0, "r "), impl.TxnBad}, {watch(1, "r"), impl.TxnThere}, {watch(4, "r"), impl.TxnBad}, {watch(-1, "r"), impl.TxnBad},
		{fall(-1, 0), impl.TxnBad}, {fall(impl.ClientMax, 100), impl.TxnBad}, {add(4, "z()"), impl.TxnBad}, {gone(-1, "p(a)"), impl.TxnBad},
		{impl.Event{}, impl.TxnBad}, {impl.Event{Kind: 0}, impl.TxnBad}, {impl.Event{Kind: -1}, impl.TxnBad}, {impl.Event{Kind: 8}, impl.TxnBad}, {impl.Event{Kind: math.MaxInt, Client: 1}, impl.TxnBad}, {impl.Event{Kind: math.MinInt, Client: -1}, impl.TxnBad},
	} {
		expectServe(t, s, c.e, c.want, s)
	}
	much := served{past: pastOf(cube(), 0, impl.Change{Comes: numbered("d", 0, 6)}), opens: map[int]impl.Txn{0: {From: 1}, 1: {From: 1, Change: comes("s()")}}}
	expectServe(t, much.server(), add(0, "d(x)"), impl.TxnMany, much.server())
	more, _ := mustDo(t, much.server(), add(1, "d(x)"))
	expectServe(t, more, gone(1, "s()"), impl.TxnMany, more)
	expectServe(t, more, add(1, "s()"), impl.TxnThere, more)
	full := served{past: pastOf(nil, 0, impl.Change{Comes: numbered("p", 0, impl.GivenMax)}), opens: map[int]impl.Txn{2: {From: 1}}}
	expectServe(t, full.server(), add(2, "z()"), impl.TxnMany, full.server())
}

// TestP47CodesOfEnding is of transactions that are no more, also if they have a code.
func TestP47CodesOfEnding(t *testing.T) {
	without := func(s served, client int) impl.Server {
		s = s.copied()
		delete(s.opens, client)
		return s.server()
	}
	s := oneOfEach()
	expectServe(t, s.server(), end(2), impl.TxnClash, without(s, 2))
	expectServe(t, s.server(), end(3), impl.TxnOld, without(s, 3))
	for _, client := range []int{0, 2, 3} {
		expectServe(t, s.server(), drop(client), impl.TxnFine, without(s, client))
		none, _ := mustDo(t, s.server(), drop(client))
		expectServe(t, none, drop(client), impl.TxnNone, none)
		expectServe(t, none, end(client), impl.TxnNone, none)
		expectServe(t, none, add(client, "z()"), impl.TxnNone, none)
	}
	// One that changes nothing, of now and of another time.
	for _, from := range []int{9, 11, 12} {
		s := oneOfEach()
		s.opens[1] = impl.Txn{From: from}
		expectServe(t, s.server(), end(1), impl.TxnFine, without(s, 1))
	}
	for name, p := range map[string]past{
		"time 100000": pastOf(nil, lastTime, toggles("z()", 0)...),
		"GivenMax":    pastOf(nil, 0, impl.Change{Comes: numbered("p", 0, impl.GivenMax-1)}, impl.Change{Comes: numbered("p", impl.GivenMax-1, 1)}),
		"AllMax":      pastOf(cube(), 0, impl.Change{Comes: numbered("d", 0, 5)}, impl.Change{Comes: numbered("d", 5, 1)}),
	} {
		s := servedNew(nil)
		s.past = p
		from := max(p.base.Time-1, p.first())
		s.opens[1] = impl.Txn{From: from, Change: comes("d(x)")}
		expect(t, name, impl.ServeOk(s.server()), true)
		expectServe(t, s.server(), end(1), impl.TxnMany, without(s, 1))
	}
}

// TestP47AsTold holds ServeDo against what the document says, step by step.
func TestP47AsTold(t *testing.T) {
	codes, notices := map[[2]int]int{}, 0
	check := func(s served, x happened) {
		what := []any{x.event, x.before}
		expect(t, what, x.before, s.server())
		expect(t, what, impl.ServeOk(x.before), true)
		s = s.copied()
		told, code := s.happen(x.event)
		codes[[2]int{x.event.Kind, code}]++
		notices += len(told)
		expect(t, what, x.code, code)
		expect(t, what, x.told, told)
		expect(t, what, x.after, s.server())
		expect(t, what, impl.ServeOk(x.after), true)
		if code != impl.TxnFine {
			expect(t, what, x.after.Base, x.before.Base)
			expect(t, what, x.after.Log, x.before.Log)
			expect(t, what, len(x.told), 0)
		}
	}
	forWalks(121, 25, 90, true, check)
	forWalks(122, 60, 12, false, check)
	for _, want := range [][2]int{
		{impl.ServeBegin, impl.TxnFine}, {impl.ServeBegin, impl.TxnThere}, {impl.ServeBegin, impl.TxnBad},
		{impl.ServeAdd, impl.TxnFine}, {impl.ServeAdd, impl.TxnBad}, {impl.ServeAdd, impl.TxnThere}, {impl.ServeAdd, impl.TxnNone}, {impl.ServeAdd, impl.TxnOld},
		{impl.ServeGone, impl.TxnFine}, {impl.ServeGone, impl.TxnNone}, {impl.ServeGone, impl.TxnOld},
		{impl.ServeEnd, impl.TxnFine}, {impl.ServeEnd, impl.TxnNone}, {impl.ServeEnd, impl.TxnClash}, {impl.ServeEnd, impl.TxnOld},
		{impl.ServeDrop, impl.TxnFine}, {impl.ServeDrop, impl.TxnNone}, {impl.ServeWatch, impl.TxnFine}, {impl.ServeWatch, impl.TxnThere}, {impl.ServeWatch, impl.TxnBad},
		{impl.ServeFall, impl.TxnFine}, {impl.ServeFall, impl.TxnBad},
	} {
		if codes[want] < 3 {
			t.Fatal("too few of a code:", want, codes)
		}
	}
	if notices < 80 {
		t.Fatal("too few notices:", notices)
	}
}

// TestP47LogMax is of a log that is as long as it may be, and of what comes behind it.
func TestP47LogMax(t *testing.T) {
	log, changes := logOfSize(impl.LogMax)
	b, ok := impl.LogBase(rules("r() if p()"), log)
	expect(t, "LogMax", ok, true)
	s := impl.Server{Base: b, Log: log, Watches: []impl.Watch{{Client: 3, Name: "z"}}}
	expect(t, "LogMax", impl.ServeOk(s), true)
	s, _ = mustDo(t, s, begin(0), add(0, "z()"))
	then, told := mustDo(t, s, end(0))
	expect(t, "one more", told, []impl.Notice{{Client: 3, Name: "z", Change: comes("z()")}})
	expect(t, "one more", then.Log == log+recordOf(len(changes), comes("z()")), true)
	expect(t, "one more", then.Base.Time, len(changes)+1)
	expect(t, "one more", then.Opens, []impl.Open(nil))
	expect(t, "one more", then.Watches, []impl.Watch{{Client: 3, Name: "z", Seen: atoms("z()")}})
	expect(t, "one more", impl.ServeOk(then), false)
	expectServe(t, then, begin(0), impl.TxnBad, impl.Server{})
	_, ok = impl.ServeAsk(then, 0, readBody("z()"))
	expect(t, "one more", ok, false)
	// A fall reads just what there is, and nothing of more.
	for client, bytes := range map[int]int{0: 0, 1: 100, 2: -1, 3: math.MaxInt} {
		then, _ := mustDo(t, s, fall(client, bytes))
		expect(t, bytes, same(then, impl.Server{Base: b, Log: log}), true)
	}
	for _, bytes := range []int{1, 5, 100, math.MaxInt} {
		then, _ := mustDo(t, s, fall(0, bytes))
		expect(t, bytes, then, impl.Server{Base: impl.Base{Rules: b.Rules}})
	}
	shorter, _ := logOfSize(impl.LogMax - len(recordOf(len(changes), comes("z()"))))
	b, _ = impl.LogBase(b.Rules, shorter)
	s, _ = mustDo(t, impl.Server{Base: b, Log: shorter}, begin(1), add(1, "z()"))
	then, _ = mustDo(t, s, end(1))
	expect(t, "just LogMax", impl.ServeOk(then), true)
	fallen, _ := mustDo(t, s, fall(1, math.MaxInt))
	expect(t, "just LogMax", fallen.Log == then.Log && same(fallen.Base, then.Base), true)
}

func TestP42StaysCommitted(t *testing.T) {
	commits, falls := 0, 0
	forWalks(123, 30, 90, true, func(s served, x happened) {
		b, ok := impl.LogBase(s.base.Rules, x.after.Log)
		expect(t, x.after.Log, ok, true)
		expect(t, []any{x.event, x.after.Log}, b, x.after.Base)
		all := mustEval(t, x.after.Base.Rules, x.after.Base.Given)
		for _, w := range x.after.Watches {
			expect(t, []any{x.event, w}, w.Seen, ofName(all, w.Name))
		}
		if x.after.Base.Time > x.before.Base.Time {
			commits++
		}
		if x.event.Kind == impl.ServeFall && x.code == impl.TxnFine && x.after.Base.Time > 0 {
			falls++
		}
	})
	if commits < 120 || falls < 20 {
		t.Fatal("too few:", commits, falls)
	}
}

// TestP42ManyCommits is of more commits than times are known.
func TestP42ManyCommits(t *testing.T) {
	s, _ := mustDo(t, impl.ServeNew(rules("r() if not p()")), watch(2, "r"), watch(0, "p"), begin(3), add(3, "q()"))
	for i, c := range toggles("p()", impl.HistMax+3) {
		turn := add(1, "p()")
		r, p := goes("r()"), comes("p()")
		if len(c.Goes) > 0 {
			turn = gone(1, "p()")
			r, p = comes("r()"), goes("p()")
		}
		var told []impl.Notice
		s, told = mustDo(t, s, begin(1), turn, end(1))
		expect(t, i, told, []impl.Notice{{Client: 0, Name: "p", Change: p}, {Client: 2, Name: "r", Change: r}})
		expect(t, i, s.Log, logOf(toggles("p()", i+1)...))
		expect(t, i, s.Base.Time, i+1)
		b, ok := impl.LogBase(s.Base.Rules, s.Log)
		expect(t, i, ok, true)
		expect(t, i, b, s.Base)
		// Who began at time 0 can go on as long as that is known.
		_, _, code := impl.ServeDo(s, add(3, "z()"))
		rows, ok := impl.ServeAsk(s, 3, readBody("q() and r() and not p()"))
		if i < impl.HistMax {
			expect(t, i, code, impl.TxnFine)
			expect(t, i, ok, true)
			expect(t, i, rows, [][]string{{}})
			continue
		}
		expect(t, i, ok, false)
		expect(t, i, rows, [][]string(nil))
		for _, e := range []impl.Event{add(3, "z()"), gone(3, "q()"), add(3, "q()")} {
			expectServe(t, s, e, impl.TxnOld, s)
		}
		expectServe(t, s, begin(3), impl.TxnThere, s)
		left := s
		left.Opens = nil
		expectServe(t, s, end(3), impl.TxnOld, left)
		expectServe(t, s, drop(3), impl.TxnFine, left)
	}
}

func TestP43Falls(t *testing.T) {
	whole, none := 0, 0
	forWalks(124, 12, 40, true, func(s served, x happened) {
		if x.event.Kind != impl.ServeEnd && x.event.Kind != impl.ServeAdd {
			return
		}
		client := x.event.Client
		ended, _, code := impl.ServeDo(x.before, end(client))
		record := s.record(client)
		expect(t, x.before, ended.Log, x.before.Log+record)
		for bytes := -1; bytes <= len(record)+1; bytes++ {
			then, told, got := impl.ServeDo(x.before, fall(client, bytes))
			what := []any{bytes, client, x.before}
			if client < 0 || client >= impl.ClientMax {
				expect(t, what, got, impl.TxnBad)
				expect(t, what, then, x.before)
				continue
			}
			expect(t, what, got, impl.TxnFine)
			expect(t, what, told, []impl.Notice(nil))
			want := x.before
			if bytes >= len(record) {
				want = ended
			}
			expect(t, what, then, impl.Server{Base: want.Base, Log: want.Log})
		}
		if record != "" {
			whole++
		} else if code != impl.TxnFine {
			none++
		}
	})
	if whole < 30 || none < 10 {
		t.Fatal("too few:", whole, none)
	}
}

func TestP43Examples(t *testing.T) {
	s, _ := mustDo(t, impl.ServeNew(springRules()), begin(0), add(0, "p(d)"), end(0), watch(1, "r"), begin(2), add(2, "e(c,a)"), begin(3), add(3, "p(c)"))
	first := recordOf(0, comes("p(d)"))
	expect(t, "log", s.Log, first)
	second := recordOf(1, comes("e(c,a)"))
	for bytes := range len(second) {
		then, told := mustDo(t, s, fall(2, bytes))
		expect(t, bytes, told, []impl.Notice(nil))
		expect(t, bytes, then, impl.Server{Base: pastOf(springRules(), 0, comes("p(d)")).base, Log: first})
	}
	for _, bytes := range []int{len(second), len(second) + 1, math.MaxInt} {
		then, told := mustDo(t, s, fall(2, bytes))
		expect(t, bytes, told, []impl.Notice(nil))
		expect(t, bytes, then, impl.Server{Base: pastOf(springRules(), 0, comes("p(d)"), comes("e(c,a)")).base, Log: first + second})
	}
}

// TestP43LogsThatAreNot is of servers that are ok, but whose log is another base's.
func TestP43LogsThatAreNot(t *testing.T) {
	s := oneOfEach()
	record := recordOf(12, comes("p(b)"))
	expect(t, "record", s.record(0), record)
	one := logOf(comes("p(c)"))
	base := func(changes ...impl.Change) impl.Base { return pastOf(s.base.Rules, 0, changes...).base }
	twelve := toggles("p(x)", 12)
	for _, c := range []struct {
		log   string
		bytes int
		want  string
		left  impl.Base
	}{
		{"", 100, "", base()}, {"x", 0, "", base()}, {"\xff\n\n", 100, "", base()}, {record, 100, "", base()}, {one[:len(one)-1], 100, "", base()},
		{one, 100, one, base(comes("p(c)"))}, {one, 0, one, base(comes("p(c)"))}, {one + "1:", 100, one, base(comes("p(c)"))}, {one + one, 3, one, base(comes("p(c)"))}, {one + record, -1, one, base(comes("p(c)"))},
		// What comes may be just what the log goes on with, and whole by itself.
		{logOf(twelve...), len(record) - 1, logOf(twelve...), base(twelve...)}, {logOf(twelve...), len(record), logOf(twelve...) + record, base(append(slices.Clone(twelve), comes("p(b)"))...)}, {logOf(twelve...) + "x", 100, logOf(twelve...), base(twelve...)},
		{logOf(twelve[:11]...), 100, logOf(twelve[:11]...), base(twelve[:11]...)},
	} {
		s.log = c.log
		then, _ := mustDo(t, s.server(), fall(0, c.bytes))
		expect(t, c, then, impl.Server{Base: c.left, Log: c.want})
	}
	for _, c := range [][]impl.Change{{{}}, {comes("p(c)"), {}}, {goes("p(c)")}, {comes("p(c)"), comes("p(c)")}, {comes("p()")}, {comes("p(c)"), comes("r()")}, {{Comes: numbered("z", 0, impl.GivenMax+1)}}} {
		s.log = logOf(c...)
		for client := range impl.ClientMax {
			expectServe(t, s.server(), fall(client, 0), impl.TxnBad, s.server())
			expectServe(t, s.server(), fall(client, 1000), impl.TxnBad, s.server())
		}
	}
}

func TestP43NothingComes(t *testing.T) {
	s := oneOfEach()
	s.log = logOf(toggles("p(x)", 12)...)
	left := impl.Server{Base: pastOf(s.base.Rules, 0, toggles("p(x)", 12)...).base, Log: s.log}
	// Client 1 has no transaction, that of 2 clashes, that of 3 is too old.
	for client, bytes := range map[int]int{1: 100, 2: 100, 3: math.MaxInt, 0: 0} {
		expectServe(t, s.server(), fall(client, bytes), impl.TxnFine, left)
	}
	for _, bytes := range []int{-1, math.MinInt} {
		expectServe(t, s.server(), fall(0, bytes), impl.TxnFine, left)
	}
	s.opens[0] = impl.Txn{From: 12}
	expectServe(t, s.server(), fall(0, 100), impl.TxnFine, left)
	s.opens[0] = impl.Txn{From: 12, Change: comes("p(b)")}
	then, _ := mustDo(t, s.server(), fall(0, math.MaxInt))
	expect(t, "all", then.Log, s.log+recordOf(12, comes("p(b)")))
	// Without any fact too much follows, so nothing that was committed is a base that is not ok.
	much := served{past: pastOf(append(badBases()["rules of which too much"].Rules[:7:7], readRule("h(X,Y,Z) if d(X) and d(Y) and d(Z) and not s()")), 1)}
	much.base.Given = atoms("s()")
	expect(t, "much", impl.ServeOk(much.server()), true)
	none := impl.Server{Base: impl.Base{Rules: much.base.Rules}}
	expectServe(t, much.server(), fall(0, 0), impl.TxnFine, none)
	expect(t, "much", impl.ServeOk(none), false)
	expectServe(t, none, begin(0), impl.TxnBad, impl.Server{})
}

func TestP44NobodyElseSees(t *testing.T) {
	others := func(s impl.Server, client int) []impl.Open {
		return slices.DeleteFunc(slices.Clone(s.Opens), func(o impl.Open) bool { return o.Client == client })
	}
	watchesOf := func(s impl.Server, client int) []impl.Watch {
		return slices.DeleteFunc(slices.Clone(s.Watches), func(w impl.Watch) bool { return w.Client == client })
	}
	body := readBody("e(X,Y) and not q(X)")
	check := func(s served, x happened) {
		if x.event.Kind == impl.ServeEnd || x.event.Kind == impl.ServeFall {
			return
		}
		what := []any{x.event, x.before}
		expect(t, what, x.after.Base, x.before.Base)
		expect(t, what, x.after.Log, x.before.Log)
		expect(t, what, others(x.after, x.event.Client), others(x.before, x.event.Client))
		expect(t, what, watchesOf(x.after, x.event.Client), watchesOf(x.before, x.event.Client))
		expect(t, what, x.told, []impl.Notice(nil))
		for client := range impl.ClientMax {
			if client != x.event.Client {
				rows, ok := impl.ServeAsk(x.before, client, body)
				again, told := impl.ServeAsk(x.after, client, body)
				expect(t, what, told, ok)
				expect(t, what, again, rows)
			}
		}
	}
	forWalks(125, 8, 60, true, check)
	forWalks(126, 40, 8, false, check)
}

func TestP45WhoWatchesIsTold(t *testing.T) {
	told := 0
	check := func(s served, x happened) {
		if x.event.Kind != impl.ServeEnd {
			return
		}
		before := mustEval(t, s.base.Rules, x.before.Base.Given)
		after := mustEval(t, s.base.Rules, x.after.Base.Given)
		var want []impl.Notice
		for _, w := range x.before.Watches {
			c := impl.ChangeOf(ofName(before, w.Name), ofName(after, w.Name))
			if len(saidIn(c)) > 0 {
				want = append(want, impl.Notice{Client: w.Client, Name: w.Name, Change: c})
			}
		}
		expect(t, []any{x.event, x.before}, x.told, want)
		told += len(want)
	}
	forWalks(127, 20, 90, true, check)
	forWalks(128, 80, 8, false, check)
	if told < 60 {
		t.Fatal("too few are told:", told)
	}
}

func TestP45Examples(t *testing.T) {
	list := rules("t(X) if e(X)", "r(X) if p(X) and not t(X)")
	s, _ := mustDo(t, impl.ServeNew(list), watch(3, "r"), watch(1, "t"), watch(3, "e"), watch(1, "r"), watch(0, "zz"), watch(2, "x"), begin(2), add(2, "p(a)"), add(2, "p(b)"), begin(0), add(0, "e(a)"), add(0, "x()"))
	s, told := mustDo(t, s, end(2))
	both := comes("r(a)", "r(b)")
	expect(t, "two of one name", told, []impl.Notice{{Client: 1, Name: "r", Change: both}, {Client: 3, Name: "r", Change: both}})
	s, told = mustDo(t, s, end(0))
	// That of t and r changes by rules alone, that of x though no rule has it; of zz nothing does.
	expect(t, "by rules", told, []impl.Notice{
		{Client: 1, Name: "r", Change: goes("r(a)")}, {Client: 1, Name: "t", Change: comes("t(a)")}, {Client: 2, Name: "x", Change: comes("x()")},
		{Client: 3, Name: "e", Change: comes("e(a)")}, {Client: 3, Name: "r", Change: goes("r(a)")},
	})
	expect(t, "seen", s.Watches, []impl.Watch{
		{Client: 0, Name: "zz"}, {Client: 1, Name: "r", Seen: atoms("r(b)")}, {Client: 1, Name: "t", Seen: atoms("t(a)")}, {Client: 2, Name: "x", Seen: atoms("x()")},
		{Client: 3, Name: "e", Seen: atoms("e(a)")}, {Client: 3, Name: "r", Seen: atoms("r(b)")},
	})
	// What follows, and is given, too, is told once; what follows anyway changes nothing.
	s, told = mustDo(t, s, begin(1), add(1, "t(a)"), end(1))
	expect(t, "follows anyway", told, []impl.Notice(nil))
	s, told = mustDo(t, s, begin(1), gone(1, "e(a)"), end(1))
	expect(t, "given, too", told, []impl.Notice{{Client: 3, Name: "e", Change: goes("e(a)")}})
	// A commit of nothing, and one that is refused.
	_, told = mustDo(t, s, begin(1), add(1, "e(c)"), gone(1, "e(c)"), end(1))
	expect(t, "nothing", told, []impl.Notice(nil))
	s, _ = mustDo(t, s, begin(0), begin(1), gone(0, "p(b)"), gone(1, "p(b)"))
	s, told = mustDo(t, s, end(1))
	expect(t, "goes", told, []impl.Notice{{Client: 1, Name: "r", Change: goes("r(b)")}, {Client: 3, Name: "r", Change: goes("r(b)")}})
	left := s
	left.Opens = nil
	expectServe(t, s, end(0), impl.TxnClash, left)
	s, told = mustDo(t, left, begin(0), add(0, "e(b)"), add(0, "p(b)"), gone(0, "t(a)"), end(0))
	expect(t, "comes and goes", told, []impl.Notice{{Client: 1, Name: "r", Change: comes("r(a)")}, {Client: 1, Name: "t", Change: impl.Change{Comes: atoms("t(b)"), Goes: atoms("t(a)")}}, {Client: 3, Name: "e", Change: comes("e(b)")}, {Client: 3, Name: "r", Change: comes("r(a)")}})
	expect(t, "ok", impl.ServeOk(s), true)
}

func TestP46Asks(t *testing.T) {
	d := newDice(129)
	some := 0
	check := func(s served, x happened) {
		body := []impl.Part{{Atom: d.evalAtom([]string{"e", "t", "q", "r", "p"}, []string{"X", "Y", "a"})}, {Not: true, Atom: d.evalAtom([]string{"e", "p", "s"}, []string{"a", "b"})}}[:1+d.roll(2)]
		all := mustEval(t, s.base.Rules, s.base.Given)
		for client := range impl.ClientMax {
			rows, ok := impl.ServeAsk(x.before, client, body)
			open, has := s.opens[client]
			seen, good := s.sees(open)
			what := []any{client, body, x.before}
			if !has {
				expect(t, what, ok, true)
				expect(t, what, rows, rowsOf(all, body))
				continue
			}
			expect(t, what, ok, good)
			if !good {
				expect(t, what, rows, [][]string(nil))
				continue
			}
			expect(t, what, rows, rowsOf(mustEval(t, s.base.Rules, listOf(seen)), body))
			again, _ := impl.TxnAsk(x.before.Base, open, body)
			expect(t, what, again, rows)
			some += len(rows)
		}
		for _, client := range []int{-1, impl.ClientMax, math.MinInt, math.MaxInt} {
			rows, ok := impl.ServeAsk(x.before, client, body)
			expect(t, client, ok, false)
			expect(t, client, rows, [][]string(nil))
		}
	}
	forWalks(130, 8, 40, true, check)
	forWalks(131, 40, 6, false, check)
	if some < 100 {
		t.Fatal("too few rows:", some)
	}
}

func TestP46Examples(t *testing.T) {
	s := oneOfEach().server()
	for _, c := range []struct {
		client int
		body   string
		want   [][]string
		ok     bool
	}{
		{0, "r(X)", [][]string{{"a"}, {"b"}}, true}, {1, "r(X)", [][]string{{"a"}}, true}, {2, "r(X) and z() and not p(b)", [][]string{{"a"}}, true}, {3, "r(X)", nil, false},
		{1, "p(a)", [][]string{{}}, true}, {1, "p(b)", nil, true}, {0, "p(b)", [][]string{{}}, true}, {0, "p(c)", nil, true}, {1, "not z()", [][]string{{}}, true}, {2, "not z()", nil, true},
		{-1, "r(X)", nil, false}, {impl.ClientMax, "r(X)", nil, false},
	} {
		rows, ok := impl.ServeAsk(s, c.client, readBody(c.body))
		expect(t, c, ok, c.ok)
		expect(t, c, rows, c.want)
	}
	for client := range impl.ClientMax {
		for _, bad := range badBodies() {
			rows, ok := impl.ServeAsk(s, client, bad)
			expect(t, bad, ok, false)
			expect(t, bad, rows, [][]string(nil))
		}
	}
}

// played is ServeDo of each event, one behind the other.
func played(list []impl.Rule, events []impl.Event) impl.Server {
	s := impl.ServeNew(list)
	for _, e := range events {
		s, _, _ = impl.ServeDo(s, e)
	}
	return s
}

func TestP48Plays(t *testing.T) {
	d := newDice(132)
	for range 30 {
		list := d.past(0).base.Rules
		events := d.events(servedNew(list), impl.PlayMax)
		expect(t, []any{list, events}, impl.ServePlay(list, events), played(list, events))
		s := servedNew(list)
		for _, e := range events {
			s.happen(e)
		}
		expect(t, []any{list, events}, impl.ServePlay(list, events), s.server())
	}
}

func TestP48New(t *testing.T) {
	d := newDice(133)
	for range 100 {
		list := d.evalRules(impl.RuleMax, 2)
		s := impl.ServeNew(list)
		expect(t, list, s, impl.Server{Base: impl.Base{Rules: list}})
		expect(t, list, impl.ServeOk(s), allowed(list, nil))
		expect(t, list, impl.ServePlay(list, nil), s)
	}
	some := []impl.Event{begin(0), add(0, "p()"), end(0)}
	for _, bad := range badRules() {
		expect(t, bad, impl.ServeNew(bad), impl.Server{})
		expect(t, bad, impl.ServePlay(bad, nil), impl.Server{})
		// Nothing is a server, too.
		expect(t, bad, impl.ServePlay(bad, some), impl.ServePlay(nil, some))
	}
	// Too much follows of these: the server is not ok, and behind what happens first nothing.
	much := badBases()["rules of which too much"].Rules
	expect(t, "much", impl.ServeNew(much), impl.Server{Base: impl.Base{Rules: much}})
	expect(t, "much", impl.ServeOk(impl.ServeNew(much)), false)
	expect(t, "much", impl.ServePlay(much, nil), impl.ServeNew(much))
	for _, e := range []impl.Event{begin(0), {}, watch(1, "d"), fall(0, 0)} {
		expect(t, e, impl.ServePlay(much, []impl.Event{e}), impl.Server{})
		expect(t, e, impl.ServePlay(much, append([]impl.Event{e}, some...)), impl.ServePlay(nil, some))
	}
	_, ok := impl.ServeAsk(impl.ServeNew(much), 0, readBody("d(X)"))
	expect(t, "much", ok, false)
}

func TestP48PlayMax(t *testing.T) {
	list := rules("r() if p()")
	var events []impl.Event
	for i := range impl.PlayMax / 4 {
		events = append(events, begin(i%4), add(i%4, replaced(numbered("p", i, 1)[0], nil)), add(i%4, "q("+string(rune('a'+i))+")"), end(i%4))
	}
	list = rules("r() if p(X)")
	expect(t, "PlayMax", len(events), impl.PlayMax)
	s := impl.ServePlay(list, events)
	expect(t, "PlayMax", s.Base.Time, impl.PlayMax/4)
	expect(t, "PlayMax", s, played(list, events))
	for _, more := range [][]impl.Event{append(slices.Clone(events), begin(0)), append(slices.Clone(events), impl.Event{}), make([]impl.Event, 100000)} {
		expect(t, "one more", impl.ServePlay(list, more), impl.ServeNew(list))
	}
}

func TestP59GivenUp(t *testing.T) {
	d := newDice(134)
	dropped := 0
	check := func(s served, x happened) {
		client := d.roll(impl.ClientMax)
		if _, has := s.opens[client]; has {
			return
		}
		then, _ := mustDo(t, x.before, begin(client))
		for range d.roll(4) {
			a := d.anyFact(listOf(s.now()))
			then, _, _ = impl.ServeDo(then, impl.Event{Kind: impl.ServeAdd + d.roll(2), Client: client, Atom: a})
		}
		then, told := mustDo(t, then, drop(client))
		dropped++
		expect(t, []any{client, x.before}, then, x.before)
		expect(t, x.before, told, []impl.Notice(nil))
	}
	forWalks(135, 8, 40, true, check)
	forWalks(136, 40, 6, false, check)
	if dropped < 100 {
		t.Fatal("too few:", dropped)
	}
}

func TestP60SeesWhatItGives(t *testing.T) {
	d := newDice(137)
	given := 0
	check := func(s served, x happened) {
		client, other := d.roll(impl.ClientMax), d.roll(impl.ClientMax)
		a := d.evalAtom([]string{"e", "p", "q", "s"}, []string{"a", "b", "z"})
		body := []impl.Part{{Atom: a}}
		if _, has := s.opens[client]; has || client == other {
			return
		}
		then, _ := mustDo(t, x.before, begin(client))
		then, _, code := impl.ServeDo(then, impl.Event{Kind: impl.ServeAdd, Client: client, Atom: a})
		what := []any{a, client, other, x.before}
		if code != impl.TxnFine {
			return
		}
		rows, ok := impl.ServeAsk(then, client, body)
		expect(t, what, ok, true)
		expect(t, what, rows, [][]string{{}})
		want, wantOk := impl.ServeAsk(x.before, other, body)
		rows, ok = impl.ServeAsk(then, other, body)
		expect(t, what, ok, wantOk)
		expect(t, what, rows, want)
		then, _, code = impl.ServeDo(then, end(client))
		_, has := s.opens[other]
		rows, ok = impl.ServeAsk(then, other, body)
		if has {
			// Who has a transaction sees its own time, as long as that is known.
			if x.before.Base.Time < impl.HistMax {
				expect(t, what, ok, wantOk)
				expect(t, what, rows, want)
			}
		} else if code == impl.TxnFine {
			given++
			expect(t, what, ok, true)
			expect(t, what, rows, [][]string{{}})
		}
	}
	forWalks(138, 10, 40, true, check)
	forWalks(139, 60, 6, false, check)
	if given < 50 {
		t.Fatal("too few:", given)
	}
}

func TestP61KnowsAtOnce(t *testing.T) {
	names := []string{"e", "t", "p", "q", "r", "s", "h", "zz", "0", "abcdefgh"}
	check := func(s served, x happened) {
		all := mustEval(t, s.base.Rules, s.base.Given)
		for client := range impl.ClientMax {
			for _, name := range names {
				what := []any{client, name, x.before}
				if s.watches[client][name] {
					expectServe(t, x.before, watch(client, name), impl.TxnThere, x.before)
					continue
				}
				then, told := mustDo(t, x.before, watch(client, name))
				expect(t, what, told, []impl.Notice(nil))
				expectServe(t, then, watch(client, name), impl.TxnThere, then)
				expect(t, what, impl.ServeOk(then), true)
				expect(t, what, len(then.Watches), len(x.before.Watches)+1)
				i := slices.IndexFunc(then.Watches, func(w impl.Watch) bool { return w.Client == client && w.Name == name })
				expect(t, what, then.Watches[i].Seen, ofName(all, name))
				then.Watches = slices.Delete(then.Watches, i, i+1)
				expect(t, what, then, x.before)
			}
		}
	}
	forWalks(140, 2, 25, true, check)
	forWalks(141, 10, 3, false, check)
}

func TestP62StandsBehind(t *testing.T) {
	longer := 0
	check := func(s served, x happened) {
		if x.event.Kind == impl.ServeFall {
			return
		}
		what := []any{x.event, x.before}
		if x.after.Base.Time == x.before.Base.Time {
			expect(t, what, x.after.Log, x.before.Log)
			expect(t, what, x.after.Base, x.before.Base)
			return
		}
		longer++
		expect(t, what, x.event.Kind, impl.ServeEnd)
		last := x.after.Base.Hist[len(x.after.Base.Hist)-1]
		expect(t, what, x.after.Base.Time, x.before.Base.Time+1)
		expect(t, what, x.after.Log, x.before.Log+impl.LogPut(x.before.Base.Time, last))
		expect(t, what, x.after.Log, x.before.Log+recordOf(x.before.Base.Time, last))
	}
	forWalks(142, 15, 90, true, check)
	forWalks(143, 60, 8, false, check)
	if longer < 80 {
		t.Fatal("too few commits:", longer)
	}
}

// TestServeSchedules is of many calls at the same time, on few and on many processors.
func TestServeSchedules(t *testing.T) {
	d := newDice(144)
	list := d.past(0).base.Rules
	events := d.events(servedNew(list), impl.PlayMax)
	s := servedNew(list)
	for client := range impl.ClientMax {
		for _, name := range []string{"e", "t", "p", "q", "r", "s", "h"} {
			s.watch(client, name)
		}
	}
	s.opens[0] = impl.Txn{Change: impl.Change{Comes: atoms("e(a,b)", "e(b,c)", "p(a)", "p(b)", "q(a)", "s()")}}
	server := s.server()
	wantPlay := impl.ServePlay(list, events)
	want, wantTold, _ := impl.ServeDo(server, end(0))
	expect(t, "told", len(wantTold) >= 4*impl.ClientMax, true)
	defer runtime.GOMAXPROCS(runtime.GOMAXPROCS(0))
	for _, processors := range []int{1, 2, 7} {
		runtime.GOMAXPROCS(processors)
		var all sync.WaitGroup
		for range 12 {
			all.Add(1)
			go func() {
				defer all.Done()
				for range 5 {
					then, told, code := impl.ServeDo(server, end(0))
					if code != impl.TxnFine || !same(then, want) || !same(told, wantTold) || !same(impl.ServePlay(list, events), wantPlay) {
						t.Error("another answer")
					}
				}
			}()
		}
		all.Wait()
	}
}

// TestServeLeavesNoGoroutine is of what works only as long as a call does.
func TestServeLeavesNoGoroutine(t *testing.T) {
	before := runtime.NumGoroutine()
	s := oneOfEach().server()
	for range 200 {
		impl.ServeDo(s, begin(1))
		impl.ServeDo(s, begin(-1))
		impl.ServeDo(impl.Server{Log: strings.Repeat("x", impl.LogMax+1)}, begin(0))
		impl.ServeAsk(s, 3, readBody("p(X)"))
		impl.ServePlay(nil, []impl.Event{begin(0), fall(0, 0)})
		impl.Session([]string{"begin 0", "what"})
	}
	for range 1000 {
		if runtime.NumGoroutine() <= before {
			return
		}
		time.Sleep(time.Millisecond)
	}
	t.Fatal("goroutines that are left:", runtime.NumGoroutine()-before)
}
