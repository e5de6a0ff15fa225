package txn_test

import (
	"fmt"
	"maps"
	"math"
	"slices"
	"strconv"
	"strings"
	"testing"

	"conductor/api"
	"conductor/span"
	"conductor/ssi"
	"conductor/store"
	"conductor/txn"
)

const last = math.MaxUint64 // the last time there is

// wide are limits that nothing here comes near to.
var wide = api.Limits{Keys: api.MaxRoom, Versions: api.MaxRoom, Bytes: api.MaxRoom, Marks: api.MaxRoom, Records: api.MaxRoom, Live: api.MaxLive, Last: last}

// but are wide limits that one thing is changed of.
func but(change func(l *api.Limits)) api.Limits {
	l := wide
	change(&l)
	return l
}

// few are wide limits with so few marks and records.
func few(marks, records int) api.Limits {
	return but(func(l *api.Limits) { l.Marks, l.Records = marks, records })
}

// made gives a base of these limits, with which it is made.
func made(t *testing.T, l api.Limits) *txn.Base {
	t.Helper()
	b, err := txn.New(l)
	if b == nil || err != api.OK {
		t.Fatalf("New(%v) = %v, %d", l, b, err)
	}
	return b
}

func to(lo, hi string) api.Span {
	return api.Span{Lo: lo, Hi: hi}
}

// at gives the normal list of these keys, each of one letter.
func at(letters string) []api.Span {
	var l []api.Span
	for i := range len(letters) {
		l = span.Add(l, span.Point(letters[i:i+1]))
	}
	return l
}

// base is what is asked of a base, and of the model of one.
type base interface {
	Begin() (int, api.Errno)
	Read(id int, key string) ([]byte, bool, api.Errno)
	Scan(id int, lo, hi string) ([]api.Pair, api.Errno)
	Write(id int, w api.Write) api.Errno
	Commit(id int) (uint64, api.Errno)
	Abort(id int) api.Errno
	Collect() int
	Low() uint64
	Now() uint64
	Live() []int
	Records() []api.Record
	History() []api.Done
	All() []api.Pair
	Count() api.Sizes
}

// op is what is done, as a text: + begins, * collects; behind the number of a transaction ?a reads a, :a,c scans from a on up to ahead of c, =a,x writes x, -a writes that a is Gone, ! commits and ~ aborts.
type op string

func (o op) parts() (id int, kind, key, rest string) {
	if o == "+" || o == "*" {
		return 0, string(o), "", ""
	}
	i := 1 + strings.IndexAny(string(o[1:]), "?:=-!~")
	id, _ = strconv.Atoi(string(o[:i]))
	key, rest, _ = strings.Cut(string(o[i+1:]), ",")
	return id, string(o[i]), key, rest
}

func number(n any, err api.Errno) string {
	if err != api.OK {
		return fmt.Sprintf("E%d", err)
	}
	return fmt.Sprint(n)
}

// done does it, and gives the answer as a text. Beside an error nothing else is told (R2).
func (o op) done(b base) string {
	id, kind, key, rest := o.parts()
	switch kind {
	case "+":
		n, err := b.Begin()
		return beside(err, n == 0, number(n, err))
	case "*":
		return number(b.Collect(), api.OK)
	case "?":
		data, is, err := b.Read(id, key)
		if err == api.OK && !is {
			return beside(api.ErrNone, data == nil, "none")
		}
		return beside(err, data == nil && !is, number("+"+string(data), err))
	case ":":
		l, err := b.Scan(id, key, rest)
		return beside(err, len(l) == 0, number("("+pairs(l)+")", err))
	case "!":
		n, err := b.Commit(id)
		return beside(err, n == 0, number(fmt.Sprint("@", n), err))
	case "~":
		return number("ok", b.Abort(id))
	}
	w := api.Write{Key: key, Gone: kind == "-"}
	if kind == "=" {
		w.Data = []byte(rest)
	}
	return number("ok", b.Write(id, w))
}

// beside tells an answer, if beside an error there is nothing.
func beside(err api.Errno, nothing bool, answer string) string {
	if err != api.OK && !nothing {
		return "beside an error there is something"
	}
	return answer
}

// pairs gives what keys have as a text.
func pairs(l []api.Pair) string {
	var texts []string
	for _, p := range l {
		texts = append(texts, p.Key+"="+string(p.Data))
	}
	return strings.Join(texts, " ")
}

// state gives all that a base tells of itself as a text.
func state(b base) string {
	return fmt.Sprintf("sizes %v, %s", b.Count(), unsized(b))
}

func unsized(b base) string {
	return fmt.Sprintf("now %d, low %d, live %v, all %q, records %+v, history %+v", b.Now(), b.Low(), b.Live(), pairs(b.All()), b.Records(), b.History())
}

// ops are told as texts, with a space between.
func ops(text string) []op {
	var l []op
	for _, s := range strings.Fields(text) {
		l = append(l, op(s))
	}
	return l
}

// ran does ops, one behind the other, and gives all answers as a text; a model must tell the same.
func ran(t *testing.T, lim api.Limits, l []op) (*txn.Base, string) {
	t.Helper()
	b, m := made(t, lim), modelled(lim)
	var answers []string
	for i, o := range l {
		got, want := o.done(b), o.done(m)
		if got != want || state(b) != state(m) {
			t.Fatalf("of %+v, behind %q, %q is told %s, want %s; there is\n%s, want\n%s", lim, l[:i], o, got, want, state(b), state(m))
		}
		answers = append(answers, got)
	}
	return b, strings.Join(answers, " ")
}

// runs tells whether ops, as a text, are told these answers.
func runs(t *testing.T, lim api.Limits, text, want string) *txn.Base {
	t.Helper()
	b, got := ran(t, lim, ops(text))
	if got != want {
		t.Errorf("%q is told %q, want %q", text, got, want)
	}
	return b
}

// model is a base as the chapter tells it, in another way: whole maps of what all keys had, one for each time, and plain lists. Just what the layers below tell is asked of them: sizes, marks and judgement.
type model struct {
	lim     api.Limits
	sizes   *store.Store
	had     []map[string]string
	wrote   []map[string]int // how often a key was written at each time
	live    []*one
	begun   int
	events  int
	records []api.Record
	history []api.Done
}

// one is a live transaction, with what it wrote, in order.
type one struct {
	id, start int
	began     int
	marks     []api.Span
	wrote     []api.Write
}

func modelled(lim api.Limits) *model {
	s, _ := store.New(lim)
	return &model{lim: lim, sizes: s, had: []map[string]string{{}}, wrote: []map[string]int{{}}}
}

func (m *model) Begin() (int, api.Errno) {
	if len(m.live) == m.lim.Live {
		return 0, api.ErrFull
	}
	m.begun, m.events = m.begun+1, m.events+1
	m.live = append(m.live, &one{id: m.begun, start: m.events, began: len(m.had) - 1})
	return m.begun, api.OK
}

func (m *model) find(id int) *one {
	for _, w := range m.live {
		if w.id == id {
			return w
		}
	}
	return nil
}

func (m *model) reads(w *one, s api.Span) {
	w.marks = span.Fit(span.Add(w.marks, s), m.lim.Marks)
}

// has gives what a transaction itself wrote of a key last.
func (w *one) has(key string) (api.Write, bool) {
	for i := len(w.wrote) - 1; i >= 0; i-- {
		if w.wrote[i].Key == key {
			return w.wrote[i], true
		}
	}
	return api.Write{}, false
}

func (m *model) Read(id int, key string) ([]byte, bool, api.Errno) {
	w := m.find(id)
	if w == nil {
		return nil, false, api.ErrNone
	}
	if own, is := w.has(key); is {
		return own.Data, !own.Gone, api.OK
	}
	m.reads(w, span.Point(key))
	text, is := m.had[w.began][key]
	if !is {
		return nil, false, api.OK
	}
	return []byte(text), true, api.OK
}

func (m *model) Scan(id int, lo, hi string) ([]api.Pair, api.Errno) {
	w := m.find(id)
	if w == nil {
		return nil, api.ErrNone
	}
	if hi != "" && hi <= lo {
		return nil, api.ErrArg
	}
	m.reads(w, to(lo, hi))
	there := maps.Clone(m.had[w.began])
	for _, o := range w.wrote {
		delete(there, o.Key)
		if !o.Gone {
			there[o.Key] = string(o.Data)
		}
	}
	return pairsOf(there, func(key string) bool { return key >= lo && (hi == "" || key < hi) }), api.OK
}

func pairsOf(there map[string]string, lies func(key string) bool) []api.Pair {
	var l []api.Pair
	for _, key := range slices.Sorted(maps.Keys(there)) {
		if lies(key) {
			l = append(l, api.Pair{Key: key, Data: []byte(there[key])})
		}
	}
	return l
}

func (m *model) Write(id int, w api.Write) api.Errno {
	who := m.find(id)
	if who == nil {
		return api.ErrNone
	}
	if err := store.Check([]api.Write{w}); err != api.OK {
		return err
	}
	who.wrote = append(who.wrote, w)
	return api.OK
}

// writes gives the last write of each key.
func (w *one) writes() []api.Write {
	keys := map[string]api.Write{}
	for _, o := range w.wrote {
		keys[o.Key] = o
	}
	var l []api.Write
	for _, key := range slices.Sorted(maps.Keys(keys)) {
		l = append(l, keys[key])
	}
	return l
}

func (m *model) Commit(id int) (uint64, api.Errno) {
	w := m.find(id)
	if w == nil {
		return 0, api.ErrNone
	}
	at, err := m.commit(w)
	m.ends(id)
	return at, err
}

func (m *model) commit(w *one) (uint64, api.Errno) {
	for _, o := range w.writes() {
		for _, keys := range m.wrote[w.began+1:] {
			if keys[o.Key] > 0 {
				return 0, api.ErrClash
			}
		}
	}
	var l []api.Write
	var points []api.Span
	for _, o := range w.writes() {
		if _, is := m.had[w.began][o.Key]; o.Gone && !is {
			m.reads(w, span.Point(o.Key))
			continue
		}
		l, points = append(l, o), span.Add(points, span.Point(o.Key))
	}
	r := api.Record{Began: uint64(w.began), Reads: w.marks, Writes: span.Fit(points, m.lim.Marks)}
	out, err := ssi.Judge(m.records, r)
	if err != api.OK {
		return 0, err
	}
	at, err := m.sizes.Commit(l, m.Low())
	if err != api.OK {
		return 0, err
	}
	if len(l) > 0 {
		m.lay(l)
	}
	m.events++
	m.history = append(m.history, api.Done{Id: w.id, Began: r.Began, At: at, Start: w.start, End: m.events, Reads: r.Reads, Writes: r.Writes})
	r.First, r.Last, r.Out = at, at, out
	if at == 0 {
		r.First, r.Last = 1, 1
	}
	m.records = append(m.records, r)
	return at, api.OK
}

// lay has a time begin at which all keys have what they had, but for what is written.
func (m *model) lay(l []api.Write) {
	has, keys := maps.Clone(m.had[len(m.had)-1]), map[string]int{}
	for _, o := range l {
		has[o.Key] = string(o.Data)
		if o.Gone {
			delete(has, o.Key)
		}
		keys[o.Key]++
	}
	m.had, m.wrote = append(m.had, has), append(m.wrote, keys)
}

func (m *model) ends(id int) {
	m.live = slices.DeleteFunc(m.live, func(w *one) bool { return w.id == id })
	m.records = ssi.Fit(ssi.Forget(m.records, m.Low()), m.lim.Records, m.lim.Marks)
}

func (m *model) Abort(id int) api.Errno {
	if m.find(id) == nil {
		return api.ErrNone
	}
	m.ends(id)
	return api.OK
}

func (m *model) Low() uint64 {
	if len(m.live) == 0 {
		return m.Now()
	}
	return uint64(m.live[0].began) // who began first began as of the least time
}

func (m *model) Live() []int {
	var l []int
	for _, w := range m.live {
		l = append(l, w.id)
	}
	return l
}

func (m *model) All() []api.Pair {
	return pairsOf(m.had[len(m.had)-1], func(string) bool { return true })
}

func (m *model) Collect() int          { return m.sizes.Collect(m.Low()) }
func (m *model) Now() uint64           { return uint64(len(m.had) - 1) }
func (m *model) Records() []api.Record { return m.records }
func (m *model) History() []api.Done   { return m.history }
func (m *model) Count() api.Sizes      { return m.sizes.Count() }

// chance gives numbers that are the same each time.
type chance uint64

func (c *chance) of(n int) int {
	*c = *c*6364136223846793005 + 1442695040888963407
	return int(uint64(*c>>33) % uint64(n))
}

// op gives one of a few things, of one that is live mostly, and of these letters.
func (c *chance) op(live []int, letters string) op {
	if len(live) == 0 || c.of(len(live)+3) == 0 {
		return "+"
	}
	key := func() string {
		i := c.of(len(letters))
		return letters[i : i+1]
	}
	id := strconv.Itoa(live[c.of(len(live))])
	if c.of(40) == 0 {
		id = strconv.Itoa(c.of(9) - 2)
	}
	kinds := []string{"*", "~", "!", "!", "?", "?", "?", "?", ":", "=", "=", "=", "=", "-", "-"}
	switch kind := kinds[c.of(len(kinds))]; kind {
	case "*":
		return "*"
	case "~", "!":
		return op(id + kind)
	case ":":
		hi := key()
		if c.of(3) == 0 {
			hi = ""
		}
		return op(id + ":" + key() + "," + hi)
	case "=":
		return op(id + "=" + key() + "," + strings.Repeat("x", c.of(3)) + strconv.Itoa(c.of(9)))
	default:
		return op(id + kind + key())
	}
}

// ops gives so many, some of which make sense where the ones ahead were done.
func (c *chance) ops(lim api.Limits, n int, letters string) []op {
	m := modelled(lim)
	var l []op
	for range n {
		o := c.op(m.Live(), letters)
		o.done(m)
		l = append(l, o)
	}
	return l
}

// limits gives some limits, tight ones mostly.
func (c *chance) limits() api.Limits {
	return api.Limits{Keys: 2 + c.of(9), Versions: 3 + c.of(30), Bytes: 9 + c.of(99), Marks: 1 + c.of(5), Records: 1 + c.of(5), Live: 1 + c.of(5), Last: 1 + uint64(c.of(60))}
}

func isSame(a, b []api.Span) bool {
	return slices.Equal(a, b)
}
