package impl

import (
	"iter"
	"strconv"
	"strings"
)

// LogMax is how many bytes a log has at most.
const LogMax = 400000

// logReader reads a text from its beginning to its end.
type logReader struct {
	strings.Reader
}

func newLogReader(text string) *logReader {
	r := &logReader{}
	r.Reset(text)
	return r
}

// until reads the bytes ahead of a mark, and the mark; false if there is none.
func (r *logReader) until(mark byte) (string, bool) {
	var out strings.Builder
	for {
		b, err := r.ReadByte()
		if err != nil {
			return "", false
		}
		if b == mark {
			return out.String(), true
		}
		out.WriteByte(b)
	}
}

// signedAtom reads a sign and an atom, and the blank behind them.
func (r *logReader) signedAtom() (byte, Atom, bool) {
	text, ok := r.until(' ')
	if !ok || text == "" {
		return 0, Atom{}, false
	}
	a, ok := AtomGet(text[1:])
	return text[0], a, ok
}

// ChangePut is a change as a text.
func ChangePut(c Change) string {
	if !ChangeOk(c) {
		return ""
	}
	var out strings.Builder
	for _, a := range c.Goes {
		out.WriteString("-" + AtomPut(a) + " ")
	}
	for _, a := range c.Comes {
		out.WriteString("+" + AtomPut(a) + " ")
	}
	return out.String()
}

// ChangeGet reads a change.
func ChangeGet(text string) (Change, bool) {
	var c Change
	r := newLogReader(text)
	for r.Len() > 0 {
		sign, a, ok := r.signedAtom()
		switch {
		case ok && sign == '-' && len(c.Comes) == 0:
			c.Goes = append(c.Goes, a)
		case ok && sign == '+':
			c.Comes = append(c.Comes, a)
		default:
			return Change{}, false
		}
	}
	if !ChangeOk(c) {
		return Change{}, false
	}
	return c, true
}

// Sum is the sum of a text.
func Sum(text string) int {
	sum := 1
	for i := range len(text) {
		sum = (sum*31 + int(text[i]) + 7) % 1000003
	}
	return sum
}

// LogPut is a change under a time as bytes of a log.
func LogPut(time int, c Change) string {
	if time < 0 || time > timeMax || !ChangeOk(c) {
		return ""
	}
	text := strconv.Itoa(time) + ":" + ChangePut(c)
	return text + strconv.Itoa(Sum(text)) + "\n"
}

// record reads the record of a time; false if there is none.
func (r *logReader) record(time int) (Change, bool) {
	text, ok := r.until('\n')
	if !ok {
		return Change{}, false
	}
	// That time and sum are right is seen when all is put again.
	_, rest, _ := strings.Cut(text, ":")
	c, ok := ChangeGet(rest[:strings.LastIndexByte(rest, ' ')+1])
	if !ok || LogPut(time, c) != text+"\n" {
		return Change{}, false
	}
	return c, true
}

// records goes through the changes of whole records, from time 0 on, and where each of them ends.
func (r *logReader) records() iter.Seq2[Change, int] {
	return func(yield func(Change, int) bool) {
		for time := 0; ; time++ {
			c, ok := r.record(time)
			if !ok || !yield(c, int(r.Size())-r.Len()) {
				return
			}
		}
	}
}

// LogGet reads a log as far as it is whole, and how many bytes that takes.
func LogGet(text string) ([]Change, int) {
	if len(text) > LogMax {
		return nil, 0
	}
	var list []Change
	size := 0
	for c, end := range newLogReader(text).records() {
		list = append(list, c)
		size = end
	}
	return list, size
}

// committed is the base of rules that are fine which changes make; false if it cannot be.
func committed(rules []Rule, list []Change) (Base, bool) {
	if len(list) == 0 {
		return BaseNew(rules), true
	}
	// Of fine rules alone too much may follow, and then nothing can be committed.
	h, ok := historyOf(BaseNew(rules))
	if !ok {
		return Base{}, false
	}
	for _, c := range list {
		if isNothing(c) || h.commit(Txn{From: h.Time, Change: c}) != TxnFine {
			return Base{}, false
		}
	}
	return copyBase(h.Base), true
}

// LogBase is the base of rules that a log makes; false if it cannot be.
func LogBase(rules []Rule, text string) (Base, bool) {
	if ProgCheck(rules) != ProgFine {
		return Base{}, false
	}
	list, _ := LogGet(text)
	return committed(rules, list)
}
