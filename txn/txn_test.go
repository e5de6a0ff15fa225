package txn_test

import (
	"math"
	"strconv"
	"strings"
	"testing"

	"conductor/api"
	"conductor/store"
	"conductor/txn"
)

// P11.1
func TestNew(t *testing.T) {
	limit := func(name string, n int) api.Limits {
		return but(func(l *api.Limits) {
			switch name {
			case "keys":
				l.Keys = n
			case "versions":
				l.Versions = n
			case "bytes":
				l.Bytes = n
			case "marks":
				l.Marks = n
			case "records":
				l.Records = n
			case "live":
				l.Live = n
			}
		})
	}
	for _, name := range []string{"keys", "versions", "bytes", "marks", "records", "live"} {
		most := api.MaxRoom
		if name == "live" {
			most = api.MaxLive
		}
		for _, n := range []int{math.MinInt, -1, 0, 1, 2, most - 1, most, most + 1, math.MaxInt} {
			want := api.OK
			if n < 1 || n > most {
				want = api.ErrArg
			}
			isNew(t, limit(name, n), want)
		}
	}
	for _, end := range []uint64{0, 1, 2, last} {
		want := api.OK
		if end == 0 {
			want = api.ErrArg
		}
		isNew(t, but(func(l *api.Limits) { l.Last = end }), want)
	}
	isNew(t, api.Limits{}, api.ErrArg)
	isNew(t, api.Limits{Keys: 1, Versions: 1, Bytes: 1, Marks: 1, Records: 1, Live: 1, Last: 1}, api.OK)
}

// isNew tells whether New answers so, twice (R5), with a base that has nothing, or with none (R2).
func isNew(t *testing.T, l api.Limits, want api.Errno) {
	t.Helper()
	for range 2 {
		b, err := txn.New(l)
		if err != want || (b == nil) != (err != api.OK) {
			t.Errorf("New(%+v) = %v, %d, want %d", l, b, err, want)
		}
		if b != nil && state(b) != state(modelled(l)) {
			t.Errorf("New(%+v) has %s", l, state(b))
		}
	}
}

// P11.1, R6: of one that no call made.
func TestNotMade(t *testing.T) {
	for _, b := range []*txn.Base{nil, {}} {
		if n, err := b.Begin(); n != 0 || err != api.ErrMade {
			t.Errorf("Begin = %d, %d", n, err)
		}
		for id := range 2 {
			if l, is, err := b.Read(id, "a"); l != nil || is || err != api.ErrMade {
				t.Errorf("Read = %v, %v, %d", l, is, err)
			}
			for _, hi := range []string{"b", "a", ""} {
				if l, err := b.Scan(id, "a", hi); l != nil || err != api.ErrMade {
					t.Errorf("Scan = %v, %d", l, err)
				}
			}
			for _, w := range []api.Write{{Key: "a"}, {}} {
				if err := b.Write(id, w); err != api.ErrMade {
					t.Errorf("Write = %d", err)
				}
			}
			if n, err := b.Commit(id); n != 0 || err != api.ErrMade {
				t.Errorf("Commit = %d, %d", n, err)
			}
			if err := b.Abort(id); err != api.ErrMade {
				t.Errorf("Abort = %d", err)
			}
		}
		if b.Collect() != 0 || b.Low() != 0 || b.Now() != 0 || b.Count() != (api.Sizes{}) {
			t.Error("there is a number")
		}
		if b.Live() != nil || b.Records() != nil || b.History() != nil || b.All() != nil || b.Clone() != nil {
			t.Error("there is something")
		}
	}
}

// P11.1
func TestTold(t *testing.T) {
	const ahead = "+ 1=a,x 1=b,yy 1! + 2=a,z 2-b 2=c,w 2! "
	for _, x := range []struct {
		ops, answers string
		now, low     uint64
		live         []int
		all          string
		sizes        api.Sizes
	}{
		{"", "", 0, 0, nil, "", api.Sizes{}},
		{"+", "1", 0, 0, []int{1}, "", api.Sizes{}},
		{"+ 1=a,x", "1 ok", 0, 0, []int{1}, "", api.Sizes{}},
		{"+ 1=a,x 1!", "1 ok @1", 1, 1, nil, "a=x", api.Sizes{Keys: 1, Versions: 1, Bytes: 2}},
		{"+ 1=a,x 1~", "1 ok ok", 0, 0, nil, "", api.Sizes{}},
		{"+ + 1=a,x 1!", "1 2 ok @1", 1, 0, []int{2}, "a=x", api.Sizes{Keys: 1, Versions: 1, Bytes: 2}},
		{"+ 1=a,x 1! + +", "1 ok @1 2 3", 1, 1, []int{2, 3}, "a=x", api.Sizes{Keys: 1, Versions: 1, Bytes: 2}},
		{ahead, "1 ok ok @1 2 ok ok ok @2", 2, 2, nil, "a=z c=w", api.Sizes{Keys: 3, Versions: 5, Bytes: 8}},
		// what nobody reads goes, as far as the first one of the live ones began
		{ahead + "*", "1 ok ok @1 2 ok ok ok @2 3", 2, 2, nil, "a=z c=w", api.Sizes{Keys: 2, Versions: 2, Bytes: 4}},
		{ahead + "+ *", "1 ok ok @1 2 ok ok ok @2 3 3", 2, 2, []int{3}, "a=z c=w", api.Sizes{Keys: 2, Versions: 2, Bytes: 4}},
		{ahead + "* *", "1 ok ok @1 2 ok ok ok @2 3 0", 2, 2, nil, "a=z c=w", api.Sizes{Keys: 2, Versions: 2, Bytes: 4}},
		{"+ 1=a,x 1! + + 2=a,z 2! + *", "1 ok @1 2 3 ok @2 4 0", 2, 1, []int{3, 4}, "a=z", api.Sizes{Keys: 1, Versions: 2, Bytes: 3}},
		{"+ 1=a,x 1! + + 2=a,z 2! + 3~ *", "1 ok @1 2 3 ok @2 4 ok 1", 2, 2, []int{4}, "a=z", api.Sizes{Keys: 1, Versions: 1, Bytes: 2}},
		{"+ 1=a,x 1! + + 2=a,z 2! + 3! *", "1 ok @1 2 3 ok @2 4 @2 1", 2, 2, []int{4}, "a=z", api.Sizes{Keys: 1, Versions: 1, Bytes: 2}},
		{"+ 1=a,x 1! + + 2=a,z 2! + 4~ *", "1 ok @1 2 3 ok @2 4 ok 0", 2, 1, []int{3}, "a=z", api.Sizes{Keys: 1, Versions: 2, Bytes: 3}},
		{"*", "0", 0, 0, nil, "", api.Sizes{}},
	} {
		b := runs(t, wide, x.ops, x.answers)
		if b.Now() != x.now || b.Low() != x.low || len(b.Live()) != len(x.live) || pairs(b.All()) != x.all || b.Count() != x.sizes {
			t.Errorf("%q leaves %s", x.ops, state(b))
		}
		for i, id := range b.Live() {
			if id != x.live[i] {
				t.Errorf("behind %q, %v are live", x.ops, b.Live())
			}
		}
	}
}

// P11.2
func TestBegin(t *testing.T) {
	for _, live := range []int{1, 2, 3, 10, api.MaxLive} {
		b := made(t, but(func(l *api.Limits) { l.Live = live }))
		for i := range live {
			if n, err := b.Begin(); n != i+1 || err != api.OK || len(b.Live()) != i+1 {
				t.Fatalf("the one behind %d = %d, %d; %v are live", i, n, err, b.Live())
			}
		}
		for i, id := range b.Live() {
			if id != i+1 {
				t.Fatalf("%v are live", b.Live())
			}
		}
		was := state(b)
		for range 3 {
			if n, err := b.Begin(); n != 0 || err != api.ErrFull || state(b) != was { // R2, R3
				t.Errorf("of %d, one more: %d, %d", live, n, err)
			}
		}
		for i, id := range b.Live() { // who ends makes room for one, whose number is a new one
			b.Abort(id)
			if n, err := b.Begin(); n != live+i+1 || err != api.OK {
				t.Errorf("of %d, in the place of %d: %d, %d", live, id, n, err)
			}
		}
		if n, err := b.Begin(); n != 0 || err != api.ErrFull {
			t.Errorf("of %d, one more: %d, %d", live, n, err)
		}
	}
}

// P11.2: whatever comes out at a commit, another one may begin.
func TestBeginBehindCommits(t *testing.T) {
	one := but(func(l *api.Limits) { l.Live, l.Last = 2, 2 })
	runs(t, one, "+ + + 1=a,x 2=a,y 1! + + 2! + 4=a,x 4! + 5=a,z 5! + +", "1 2 E5 ok ok @1 3 E5 E100 4 ok @2 5 ok E5 6 E5")
}

// P11.3
func TestRead(t *testing.T) {
	const ahead = "+ 1=a,x 1=c, 1=d,y 1! + 2-d 2! " // as of 2: a has x, c no bytes, d nothing
	for _, x := range []struct {
		ops, answers string
		reads        string // what is marked, if it commits
	}{
		{"+ 3?a", "3 +x", "a"},
		{"+ 3?b", "3 none", "b"},
		{"+ 3?c", "3 +", "c"},
		{"+ 3?d", "3 none", "d"},
		{"+ 3?d 3?a 3?d 3?a", "3 none +x none +x", "ad"},
		// its own writes
		{"+ 3=a,z 3?a", "3 ok +z", ""},
		{"+ 3=a, 3?a", "3 ok +", ""},
		{"+ 3-a 3?a", "3 ok none", ""},
		{"+ 3=b,z 3?b 3?c", "3 ok +z +", "c"},
		{"+ 3=a,z 3=a,w 3?a", "3 ok ok +w", ""},
		{"+ 3=a,z 3-a 3?a", "3 ok ok none", ""},
		{"+ 3-a 3=a,w 3?a", "3 ok ok +w", ""},
		{"+ 3?a 3=a,z 3?a", "3 +x ok +z", "a"},
		// others
		{"+ + 4=a,z 3?a", "3 4 ok +x", "a"},
		{"+ + 4=a,z 4! 3?a", "3 4 ok @3 +x", "a"},
		{"+ + 4=a,z 4=b,z 4-c 4! 3?a 3?b 3?c + 5?a 5?b 5?c", "3 4 ok ok ok @3 +x none + 5 +z +z none", "abc"},
		{"+ + 4=d,z 4! + 5-a 5! * 3?a 3?d", "3 4 ok @3 5 ok @4 2 +x none", "ad"},
		// who is not live
		{"+ 1?a 4?a 0?a -1?a 3!", "3 E4 E4 E4 E4 @2", ""},
		{"+ 3~ 3?a +", "3 ok E4 4", ""},
		{"+ 3! 3?a", "3 @2 E4", ""},
	} {
		b := runs(t, wide, ahead+x.ops, "1 ok ok ok @1 2 ok @2 "+x.answers)
		b.Commit(3)
		for _, d := range b.History() {
			if d.Id == 3 && !isSame(d.Reads, at(x.reads)) {
				t.Errorf("%q reads %q, want %q", x.ops, d.Reads, x.reads)
			}
		}
	}
}

// P11.3
func TestScan(t *testing.T) {
	const ahead = "+ 1=a,x 1=b, 1=d,y 1! + 2-d 2! " // as of 2: a has x, b no bytes, d nothing
	for _, x := range []struct {
		ops, answers string
		reads        []api.Span
	}{
		{"+ 3:a,c", "3 (a=x b=)", []api.Span{to("a", "c")}},
		{"+ 3:,", "3 (a=x b=)", []api.Span{to("", "")}},
		{"+ 3:,b", "3 (a=x)", []api.Span{to("", "b")}},
		{"+ 3:b,", "3 (b=)", []api.Span{to("b", "")}},
		{"+ 3:c,", "3 ()", []api.Span{to("c", "")}},
		{"+ 3:a\x00,b", "3 ()", []api.Span{to("a\x00", "b")}},
		{"+ 3:a,b 3:c,d", "3 (a=x) ()", []api.Span{to("a", "b"), to("c", "d")}},
		{"+ 3:a,b 3:b,d", "3 (a=x) (b=)", []api.Span{to("a", "d")}},
		{"+ 3:a,b 3?b", "3 (a=x) +", []api.Span{to("a", "b\x00")}},
		// with its own writes in their place
		{"+ 3=c,z 3:,", "3 ok (a=x b= c=z)", []api.Span{to("", "")}},
		{"+ 3=0,z 3:,", "3 ok (0=z a=x b=)", []api.Span{to("", "")}},
		{"+ 3=a,z 3-b 3=d,w 3:,", "3 ok ok ok (a=z d=w)", []api.Span{to("", "")}},
		{"+ 3-a 3-b 3-c 3:,", "3 ok ok ok ()", []api.Span{to("", "")}},
		{"+ 3-a 3=a,v 3=b,w 3-b 3:,", "3 ok ok ok ok (a=v)", []api.Span{to("", "")}},
		{"+ 3=a,z 3=b,z 3=c,z 3:b,c", "3 ok ok ok (b=z)", []api.Span{to("b", "c")}},
		{"+ 3=c,z 3=d,w 3:c,", "3 ok ok (c=z d=w)", []api.Span{to("c", "")}},
		{"+ 3=a\x00,z 3:a,b", "3 ok (a=x a\x00=z)", []api.Span{to("a", "b")}},
		{"+ 3=h,1 3=g,2 3=f,3 3=e,4 3:,", "3 ok ok ok ok (a=x b= e=4 f=3 g=2 h=1)", []api.Span{to("", "")}},
		// others
		{"+ + 4=a,z 4=c,w 4-b 4! 3:, + 5:,", "3 4 ok ok ok @3 (a=x b=) 5 (a=z c=w)", []api.Span{to("", "")}},
		{"+ + 4=c,w 3:,", "3 4 ok (a=x b=)", []api.Span{to("", "")}},
		// what is no stretch, and who is not live
		{"+ 3:a,a 3:b,a 3:a\x00,a 3:\xff,a", "3 E1 E1 E1 E1", nil},
		{"+ 3=a,z 3:a,a", "3 ok E1", nil},
		{"+ 4:a,b 4:b,a 0:a, -1:a,", "3 E4 E4 E4 E4", nil},
		{"+ 3~ 3:a,b", "3 ok E4", nil},
	} {
		b := runs(t, wide, ahead+x.ops, "1 ok ok ok @1 2 ok @2 "+x.answers)
		b.Commit(3)
		for _, d := range b.History() {
			if d.Id == 3 && !isSame(d.Reads, x.reads) {
				t.Errorf("%q reads %q, want %q", x.ops, d.Reads, x.reads)
			}
		}
	}
}

// P11.3: store.Check's errors, of one write alone; what is refused leaves what it wrote ahead (R3).
func TestWrite(t *testing.T) {
	key, data := strings.Repeat("k", api.MaxKey), make([]byte, api.MaxData)
	long, more := key+"k", make([]byte, api.MaxData+1)
	b := made(t, wide)
	id, _ := b.Begin()
	for _, x := range []struct {
		w   api.Write
		err api.Errno
	}{
		{api.Write{Key: "b"}, api.OK},
		{api.Write{Key: "a", Data: data}, api.OK}, // in whatever order they come
		{api.Write{Key: "a", Data: nil}, api.OK},
		{api.Write{Key: key, Data: data}, api.OK},
		{api.Write{Key: key, Gone: true}, api.OK},
		{api.Write{Key: "a", Gone: true, Data: []byte{}}, api.OK},
		{api.Write{Key: "\x00"}, api.OK},
		{api.Write{Key: "a", Data: []byte("stays")}, api.OK},
		{api.Write{Key: "a", Data: more}, api.ErrLong},
		{api.Write{Key: long, Gone: true}, api.ErrLong},
		{api.Write{Key: "a", Gone: true, Data: more}, api.ErrLong},
		{api.Write{Key: "", Data: more}, api.ErrLong},
		{api.Write{Key: long, Gone: true, Data: []byte("x")}, api.ErrLong},
		{api.Write{}, api.ErrArg},
		{api.Write{Gone: true}, api.ErrArg},
		{api.Write{Key: "a", Gone: true, Data: []byte("x")}, api.ErrArg},
	} {
		for range 2 { // R5
			if err := b.Write(id, x.w); err != x.err || err != store.Check([]api.Write{x.w}) {
				t.Errorf("Write(%.99v) = %d, want %d", x.w, err, x.err)
			}
		}
		for _, none := range []int{math.MinInt, -1, 0, id + 1, math.MaxInt} {
			if err := b.Write(none, x.w); err != api.ErrNone {
				t.Errorf("Write(%d, ..) = %d", none, err)
			}
		}
	}
	if l, _, _ := b.Read(id, "a"); string(l) != "stays" {
		t.Errorf("a has %q", l)
	}
	if n, err := b.Commit(id); n != 1 || err != api.OK || pairs(b.All()) != "\x00= a=stays b=" {
		t.Errorf("%d, %d, %q", n, err, pairs(b.All()))
	}
	if err := b.Write(id, api.Write{Key: "a"}); err != api.ErrNone {
		t.Errorf("Write, behind its end: %d", err)
	}
}

// P11.3: any key may be read, also one that none can have.
func TestReadOfAnyKey(t *testing.T) {
	b := made(t, wide)
	id, _ := b.Begin()
	for _, key := range []string{"", "\x00", "\xff\xff", strings.Repeat("k", api.MaxKey+1), strings.Repeat("\xff", 1<<16)} {
		if l, is, err := b.Read(id, key); l != nil || is || err != api.OK {
			t.Errorf("Read of %d bytes = %v, %v, %d", len(key), l, is, err)
		}
		if l, err := b.Scan(id, key, ""); len(l) > 0 || err != api.OK {
			t.Errorf("Scan of %d bytes = %v, %d", len(key), l, err)
		}
	}
	if n, err := b.Commit(id); n != 0 || err != api.OK {
		t.Errorf("%d, %d", n, err)
	}
}

// P11.2, P11.3: as many as there may be, each with a write of its own.
func TestManyLive(t *testing.T) {
	b := made(t, wide)
	for i := range api.MaxLive {
		id, _ := b.Begin()
		b.Write(id, api.Write{Key: "a", Data: []byte(strconv.Itoa(i))})
	}
	for i, id := range b.Live() {
		if l, is, err := b.Read(id, "a"); string(l) != strconv.Itoa(i) || !is || err != api.OK {
			t.Errorf("%d reads %q", id, l)
		}
	}
	for i, id := range b.Live() {
		want := api.ErrClash
		if i == 0 {
			want = api.OK
		}
		if _, err := b.Commit(id); err != want {
			t.Errorf("Commit(%d) = %d", id, err)
		}
	}
}
