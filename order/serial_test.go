package order_test

import (
	"fmt"
	"maps"
	"slices"
	"testing"

	"conductor/api"
	"conductor/order"
	"conductor/txn"
)

// deed is what a transaction did, and what it was told: it reads, scans, writes, or has a key go.
type deed struct {
	kind byte // r, s, w or g
	key  string
	text string // where a scan ends, or what is written
	told string
}

// pairs gives what keys have as a text.
func pairs(l []api.Pair) string {
	text := ""
	for _, p := range l {
		text += p.Key + "=" + string(p.Data) + " "
	}
	return text
}

// machine is a base with all that its transactions did.
type machine struct {
	t       *testing.T
	b       *txn.Base
	deeds   map[int][]deed
	refused int
}

func machineOf(t *testing.T, l api.Limits) *machine {
	t.Helper()
	b, err := txn.New(l)
	if err != api.OK {
		t.Fatalf("New(%+v) = %d", l, err)
	}
	return &machine{t: t, b: b, deeds: map[int][]deed{}}
}

// does has a live transaction do something, and keeps what it was told.
func (m *machine) does(id int, d deed) {
	err := api.OK
	switch d.kind {
	case 'r':
		var data []byte
		var is bool
		data, is, err = m.b.Read(id, d.key)
		d.told = fmt.Sprint(string(data), is)
	case 's':
		var l []api.Pair
		l, err = m.b.Scan(id, d.key, d.text)
		d.told = pairs(l)
	default:
		w := api.Write{Key: d.key, Gone: d.kind == 'g'}
		if !w.Gone {
			w.Data = []byte(d.text)
		}
		err = m.b.Write(id, w)
	}
	if err != api.OK {
		m.t.Fatalf("%d does %+v: %d", id, d, err)
	}
	m.deeds[id] = append(m.deeds[id], d)
}

func (m *machine) commits(id int) {
	if _, err := m.b.Commit(id); err == api.ErrDanger {
		m.refused++
	}
}

// alone does a transaction's deeds on a plain map, on which nobody else does anything, and tells whether it is told the same.
func alone(has map[string]string, l []deed) bool {
	for _, d := range l {
		told := ""
		switch d.kind {
		case 'r':
			text, is := has[d.key]
			told = fmt.Sprint(text, is)
		case 's':
			told = pairsOf(has, d.key, d.text)
		case 'w':
			has[d.key] = d.text
		case 'g':
			delete(has, d.key)
		}
		if told != d.told {
			return false
		}
	}
	return true
}

func pairsOf(has map[string]string, lo, hi string) string {
	text := ""
	for _, key := range slices.Sorted(maps.Keys(has)) {
		if key >= lo && (hi == "" || key < hi) {
			text += key + "=" + has[key] + " "
		}
	}
	return text
}

// isSerial tells whether all that committed is laid, and one behind the other, in that order, is told the same, and leaves the same. It gives how often one stands behind another one that committed later.
func (m *machine) isSerial() int {
	m.t.Helper()
	l := m.b.History()
	o, is := order.Order(l)
	if !is || !order.Right(l, o) || !isLaid(m.t, l) {
		m.t.Fatalf("%+v is laid: %v, %t", l, o, is)
	}
	has := map[string]string{}
	for _, place := range o {
		if id := l[place].Id; !alone(has, m.deeds[id]) {
			m.t.Fatalf("of %+v, in the order %v, %d is told otherwise than %+v", l, o, id, m.deeds[id])
		}
	}
	if pairsOf(has, "", "") != pairs(m.b.All()) {
		m.t.Fatalf("%+v, in the order %v, leaves %v, and there is %q", l, o, has, pairs(m.b.All()))
	}
	turned := 0
	for i := range o {
		if i > 0 && o[i] < o[i-1] {
			turned++
		}
	}
	return turned
}

// some gives one of a few deeds.
func (c *chance) some() deed {
	letter := func() string { return "abcdef"[c.of(6):][:1] }
	d := deed{kind: "rrrrswwwgg"[c.of(10)], key: letter()}
	switch d.kind {
	case 's':
		d.text = letter()
		if d.text <= d.key {
			d.text = ""
		}
	case 'w':
		d.text = fmt.Sprint(c.of(1000))
	}
	return d
}

// limits gives some limits, of which those of marks and records are tight ones mostly.
func (c *chance) limits() api.Limits {
	l := api.Limits{Keys: 9, Versions: 2000, Bytes: 20000, Marks: 1 + c.of(9), Records: 1 + c.of(20), Live: 1 + c.of(8), Last: last}
	if c.of(5) == 0 {
		l.Keys, l.Versions, l.Bytes, l.Last = 2+c.of(4), 3+c.of(9), 9+c.of(30), uint64(1+c.of(40))
	}
	return l
}

// P12.5: whatever the transactions of a base did.
func TestSerial(t *testing.T) {
	turned, refused, committed := 0, 0, 0
	for seed := range 1500 {
		c := chance(seed)
		m := machineOf(t, c.limits())
		for range 100 {
			live := m.b.Live()
			if len(live) == 0 || c.of(4) == 0 {
				m.b.Begin()
				continue
			}
			id := live[c.of(len(live))]
			switch c.of(12) {
			case 0, 1, 2:
				m.commits(id)
			case 3:
				m.b.Abort(id)
			case 4:
				m.b.Collect()
			default:
				m.does(id, c.some())
			}
		}
		turned += m.isSerial()
		for _, id := range m.b.Live() {
			m.commits(id)
		}
		turned += m.isSerial()
		refused, committed = refused+m.refused, committed+len(m.b.History())
	}
	if turned < 200 || refused < 200 || committed < 10000 {
		t.Errorf("of %d that committed, %d stand ahead of one that did so before; %d were refused", committed, turned, refused)
	}
}

// P12.5: three that read a letter, and write one, or none, in each order in which they can begin and commit.
func TestSerialOfAllOfThree(t *testing.T) {
	var all [][2]string
	for _, read := range []string{"a", "b", "c"} {
		for _, write := range []string{"", "a", "b", "c"} {
			all = append(all, [2]string{read, write})
		}
	}
	turned := 0
	lim := api.Limits{Keys: 9, Versions: 99, Bytes: 99, Marks: 2, Records: 9, Live: 3, Last: last}
	for _, o := range ordersOf(6) {
		ways := true // each of the three begins, by its even place, and then commits; the others are the same, with other kinds
		for i := range 5 {
			ways = ways && (i%2 == 1 || slices.Index(o, i) < slices.Index(o, i+1))
			ways = ways && (i%2 == 1 || i == 4 || slices.Index(o, i) < slices.Index(o, i+2))
		}
		if !ways {
			continue
		}
		for i := range len(all) * len(all) * len(all) {
			each := [][2]string{all[i%12], all[i/12%12], all[i/144]}
			m := machineOf(t, lim)
			ids := [3]int{}
			for _, place := range o {
				who := place / 2
				if ids[who] > 0 {
					m.commits(ids[who])
					continue
				}
				ids[who], _ = m.b.Begin()
				m.does(ids[who], deed{kind: 'r', key: each[who][0]})
				if each[who][1] != "" {
					m.does(ids[who], deed{kind: 'w', key: each[who][1], text: fmt.Sprint(who)})
				}
			}
			turned += m.isSerial()
		}
	}
	if turned == 0 {
		t.Error("all stand in the order in which they committed")
	}
}
