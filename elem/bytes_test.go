package elem_test

import (
	"bytes"
	"math/rand"
	"slices"
	"testing"

	"dripstone/api"
	"dripstone/elem"
)

// modelRead reads an element at the beginning of some bytes, and returns what is behind it; false if there is none. It takes keys as they come.
func modelRead(l api.Lattice, b []byte) (api.Elem, []byte, bool) {
	if len(b) == 0 {
		return none, nil, false
	}
	e := api.Elem{Kind: b[0]}
	is, is2 := true, true
	b = b[1:]
	switch e.Kind {
	case api.ElemNone, api.ElemOn, api.ElemClash:
		return e, b, true
	case api.ElemInt:
		e.N, b, is = modelReadNumber(b)
		return e, b, is
	case api.ElemName:
		e.N, b, is = modelReadCount(b)
		return e, b, is
	case api.ElemPair:
		if l.Shape.Kind != api.ShapePair {
			return none, nil, false
		}
		var first, second api.Elem
		first, b, is = modelRead(kidOf(l, 0), b)
		second, b, is2 = modelRead(kidOf(l, 1), b)
		return pairOf(first, second), b, is && is2
	}
	count, b, is := modelReadCount(b)
	if !is || e.Kind > api.ElemPair || e.Kind == api.ElemMap && l.Shape.Kind != api.ShapeMap || count > 40 {
		return none, nil, false
	}
	for range count {
		var key int
		key, b, is = modelReadNumber(b)
		e.Keys = append(e.Keys, key)
		if e.Kind == api.ElemMap {
			var kid api.Elem
			kid, b, is2 = modelRead(kidOf(l, 0), b)
			e.Kids = append(e.Kids, kid)
		}
		if !is || !is2 {
			return none, nil, false
		}
	}
	return e, b, true
}

// modelReadCount reads a count of at most 35 bits, in as few bytes as can be.
func modelReadCount(b []byte) (int, []byte, bool) {
	n := 0
	for i := 0; i < min(len(b), 5); i++ {
		n += int(b[i]&127) << (7 * i)
		if b[i] < 128 {
			return n, b[i+1:], i == 0 || b[i] > 0
		}
	}
	return 0, nil, false
}

func modelReadNumber(b []byte) (int, []byte, bool) {
	n, b, is := modelReadCount(b)
	if n&1 == 1 {
		return -(n >> 1) - 1, b, is
	}
	return n >> 1, b, is
}

// tryRead tells whether some bytes are those of an element, after Read was held against the model.
func tryRead(t *testing.T, l api.Lattice, b []byte) bool {
	t.Helper()
	want, rest, is := modelRead(l, b)
	is = is && len(rest) == 0 && modelHas(l, want)
	e, err := elem.Read(l, b)
	if is && (err != api.OK || !same(e, want)) || !is && (err != api.ErrForm || !same(e, none)) {
		t.Errorf("Read of %v: %v, %v; not %v, %v", b, e, err, want, is)
	}
	return is
}

// P4.7, P4.13: bytes that are written here, those of the chapter among them.
func TestBytesThatAreKnown(t *testing.T) {
	for _, x := range []struct {
		shape string
		e     api.Elem
		want  []byte
	}{
		{"pair(flag, max)", pairOf(on, number(-7)), []byte{7, 1, 2, 13}},
		{"pair(flag, max)", pairOf(none, number(0)), []byte{7, 0, 2, 0}},
		{"flag", none, []byte{0}}, {"flag", on, []byte{1}}, {"once", clash, []byte{3}}, {"once", number(-1), []byte{2, 1}}, {"max", number(1), []byte{2, 2}},
		{"max", number(63), []byte{2, 126}}, {"max", number(-64), []byte{2, 127}}, {"max", number(64), []byte{2, 128, 1}}, {"max", number(-65), []byte{2, 129, 1}}, {"max", number(8191), []byte{2, 254, 127}}, {"max", number(8192), []byte{2, 128, 128, 1}},
		{"max", number(1000000000), []byte{2, 128, 168, 214, 185, 7}}, {"max", number(-1000000000), []byte{2, 255, 167, 214, 185, 7}},
		{"l", name(3), []byte{4, 3}}, {"set", setOf(-1, 0, 64), []byte{5, 3, 1, 0, 128, 1}}, {"map(once)", mapOf([]int{-2, 3}, clash, number(2)), []byte{6, 2, 3, 3, 6, 2, 4}},
		{"map(map(once))", mapOf([]int{1}, mapOf([]int{0}, number(0))), []byte{6, 1, 2, 6, 1, 0, 2, 0}},
	} {
		l := lattice(x.shape)
		if b, err := elem.Bytes(l, x.e); !bytes.Equal(b, x.want) || err != api.OK {
			t.Errorf("%s: Bytes of %v: %v, %v", x.shape, x.e, b, err)
		}
		if e, err := elem.Read(l, x.want); !same(e, x.e) || err != api.OK {
			t.Errorf("%s: Read of %v: %v, %v", x.shape, x.want, e, err)
		}
	}
}

// P4.7: bytes of no element.
func TestBytesOfNone(t *testing.T) {
	many := append([]byte{5, 41}, make([]byte, 41)...)
	for i := range 41 {
		many[i+2] = byte(2 * i)
	}
	for _, x := range []struct {
		shape string
		list  [][]byte
	}{
		{"flag", [][]byte{nil, {}, {2}, {3}, {4, 1}, {5, 1, 0}, {8}, {255}, {0, 0}, {1, 1}, {1, 0}}},
		{"max", [][]byte{{2, 128, 0}, {2, 128}, {2}, {2, 129, 168, 214, 185, 7, 0}, {2, 130, 168, 214, 185, 7}, {2, 129, 168, 214, 185, 7}, {2, 255, 255, 255, 255, 127}, {2, 128, 168, 214, 185, 135, 0}, {3}, {1}, {2, 128, 128, 128, 128, 128, 128, 128, 128, 128, 1}, {2, 255, 255, 255, 255, 255, 255, 255, 255, 255, 1}, {2, 0, 0}, append([]byte{2}, bytes.Repeat([]byte{128}, 15000)...), append(append([]byte{2}, bytes.Repeat([]byte{128}, 15000)...), 0)}},
		{"once", [][]byte{{3, 0}, {3, 3}, {2, 3, 0}, {2, 131, 128, 0}}},
		{"l", [][]byte{{4, 0}, {4, 4}, {4, 128, 0}, {4, 129, 0}, {4}, {4, 255}, {4, 1, 0}, {2, 1}}},
		{"one", [][]byte{{4, 0}, {4, 1}}},
		{"set", [][]byte{{5}, {5, 0}, {5, 1}, {5, 2, 0}, {5, 1, 0, 2}, {5, 2, 2, 2}, {5, 2, 4, 2}, {5, 129, 0, 2}, {5, 1, 130, 0}, {5, 128, 1, 0}, many, {6, 1, 0, 1}, {5, 255, 255, 255, 255, 255, 255, 255, 255, 127, 0}, {5, 255, 255, 255, 255, 255, 255, 255, 255, 255, 1, 0}, {5, 1, 130, 168, 214, 185, 7}}},
		{"map(flag)", [][]byte{{6, 0}, {6, 1, 0}, {6, 1, 0, 0}, {6, 1, 0, 2}, {6, 2, 2, 1, 2, 1}, {6, 2, 4, 1, 2, 1}, {6, 2, 2, 1, 4, 0}, {6, 1, 0, 1, 1}, {5, 1, 0}, {6, 1, 0, 6, 1, 0, 1}}},
		{"pair(flag, max)", [][]byte{{7}, {7, 1}, {7, 0, 0}, {7, 1, 1}, {7, 2, 2, 1}, {7, 1, 2}, {7, 1, 0, 0}, {1}, {7, 7, 1, 0, 0}}},
	} {
		for _, b := range x.list {
			if e, err := elem.Read(lattice(x.shape), b); err != api.ErrForm || !same(e, none) {
				t.Errorf("%s: Read of %.20v: %v, %v", x.shape, b, e, err)
			}
		}
	}
}

// P4.7: of all lists of some bytes Read reads just those of elements.
func TestAllShortBytes(t *testing.T) {
	for _, x := range []struct {
		shape string
		most  int
		from  []byte
		least int
	}{
		{"flag", 2, nil, 2}, {"max", 2, nil, 129}, {"once", 2, nil, 130}, {"l", 2, nil, 4}, {"set", 2, nil, 1}, {"q", 2, nil, 6},
		{"max", 6, []byte{0, 1, 2, 127, 128, 255}, 79},
		{"set", 6, []byte{0, 1, 2, 3, 5, 128}, 30},
		{"map(flag)", 7, []byte{0, 1, 2, 6, 130}, 10},
		{"pair(flag, l)", 5, []byte{0, 1, 2, 4, 7, 3, 128}, 8},
		{"pair(once, set)", 6, []byte{0, 1, 2, 5, 3, 7}, 50},
		{"map(map(once))", 8, []byte{0, 1, 6, 3}, 10},
	} {
		if x.from == nil {
			for b := range 256 {
				x.from = append(x.from, byte(b))
			}
		}
		count, l := 0, lattice(x.shape)
		list := [][]byte{nil}
		for range x.most {
			var next [][]byte
			for _, b := range list {
				for _, more := range x.from {
					next = append(next, append(slices.Clone(b), more))
					if tryRead(t, l, next[len(next)-1]) {
						count++
					}
				}
			}
			list = next
		}
		if count < x.least {
			t.Errorf("%s: only %d lists of bytes were those of elements", x.shape, count)
		}
	}
}

// spoiltBytes returns bytes with one more, less, or another one.
func spoiltBytes(r *rand.Rand, b []byte) []byte {
	at, c := r.Intn(len(b)), byte(r.Intn(9))
	if r.Intn(3) == 0 {
		c = byte(r.Intn(256))
	}
	switch r.Intn(3) {
	case 0:
		return slices.Insert(slices.Clone(b), at, c)
	case 1:
		return slices.Delete(slices.Clone(b), at, at+1)
	}
	b = slices.Clone(b)
	b[at] = c
	return b
}

// P4.7, P4.13, P4.15: bytes of elements, and those with changes; with one byte more behind them, and without the last one.
func TestBytes(t *testing.T) {
	r := rand.New(rand.NewSource(8))
	count := 0
	for _, shape := range shapeTexts {
		l := lattice(shape)
		elems := elemsOf(r, l, 70)
		for range 10 {
			elems = append(elems, someElem(r, l, 8))
		}
		for _, e := range elems {
			b, err := elem.Bytes(l, e)
			if !bytes.Equal(b, modelBytes(e)) || err != api.OK {
				t.Fatalf("%s: Bytes of %v: %v, %v; not %v", shape, e, b, err, modelBytes(e))
			}
			if back, err := elem.Read(l, b); !same(back, e) || err != api.OK || elem.Check(l, back) != api.OK {
				t.Errorf("%s: Read of %v: %v, %v", shape, b, back, err)
			}
			for more := range 256 {
				if tryRead(t, l, append(slices.Clone(b), byte(more))) {
					t.Errorf("%s: %v with %d are the bytes of an element", shape, b, more)
				}
			}
			if tryRead(t, l, b[:len(b)-1]) {
				t.Errorf("%s: %v without the last one are the bytes of an element", shape, b)
			}
			for range 20 {
				if near := spoiltBytes(r, b); tryRead(t, l, near) && !bytes.Equal(near, b) {
					count++
				}
			}
		}
	}
	if count < 500 {
		t.Errorf("only %d lists of bytes that had changed were those of elements", count)
	}
}

// P4.7: just as many bytes as there may be, and one more.
func TestManyBytes(t *testing.T) {
	l := lattice("map(map(set))")
	row := mapOf(upTo(0, 40), times(40, setOf(append(upTo(0, 20), 20)...))...)
	long := mapOf(upTo(0, 20), times(20, row)...)
	size := func(e api.Elem) int { return len(modelBytes(e)) }
	for _, n := range []int{api.MaxPacked - 1, api.MaxPacked, api.MaxPacked + 1, api.MaxPacked + 100} {
		e := lengthened(long, size, n)
		if size(e) != n {
			t.Fatalf("%d bytes, not %d", size(e), n)
		}
		b, err := elem.Bytes(l, e)
		back, err2 := elem.Read(l, modelBytes(e))
		if n <= api.MaxPacked && (!bytes.Equal(b, modelBytes(e)) || err != api.OK || !same(back, e) || err2 != api.OK) {
			t.Errorf("%d bytes: %v, %v", n, err, err2)
		}
		if n > api.MaxPacked && (len(b) > 0 || err != api.ErrLimit || !same(back, none) || err2 != api.ErrLimit) {
			t.Errorf("%d bytes: %v, %v", n, err, err2)
		}
	}
	for c := range 10 {
		for _, shape := range shapeTexts {
			e, err := elem.Read(lattice(shape), bytes.Repeat([]byte{byte(c)}, api.MaxPacked))
			e2, err2 := elem.Read(lattice(shape), bytes.Repeat([]byte{byte(c)}, api.MaxPacked+1))
			if err != api.ErrForm || err2 != api.ErrLimit || !same(e, none) || !same(e2, none) {
				t.Errorf("%s: Read of many bytes %d: %v, %v; %v, %v", shape, c, e, err, e2, err2)
			}
		}
	}
	full, b := setOf(upTo(0, 40)...), modelBytes(setOf(upTo(0, 40)...))
	if e, err := elem.Read(lattice("set"), b); !same(e, full) || err != api.OK {
		t.Errorf("Read of 40 keys: %v, %v", e, err)
	}
}
