package bits_test

import (
	"bytes"
	"math"
	"math/rand"
	"slices"
	"testing"

	"lightwell/api"
	"lightwell/bits"
)

// told is what a chapter's words make of bits: a list of them, and how many are taken.
type told struct {
	bits  []int
	taken int
}

// put puts the k bits of n behind all others.
func (l *told) put(n uint32, k int) {
	for range k {
		l.bits = append(l.bits, int(n%2))
		n /= 2
	}
}

// align puts bits of 0 up to a whole byte.
func (l *told) align() {
	for len(l.bits)%8 != 0 {
		l.bits = append(l.bits, 0)
	}
}

// take tells the whole bytes that are not taken.
func (l *told) take() []byte {
	var b []byte
	for len(l.bits)-l.taken >= 8 {
		b = append(b, byte(l.number(8)))
	}
	return b
}

// number tells that of the next k bits, and takes them.
func (l *told) number(k int) uint32 {
	n := 0
	for i := range k {
		n += l.bits[l.taken+i] << i
	}
	l.taken += k
	return uint32(n)
}

// split tells the bits of bytes.
func split(b []byte) *told {
	l := &told{}
	for _, x := range b {
		l.put(uint32(x), 8)
	}
	return l
}

// below tells a drawn number below 2^k.
func below(r *rand.Rand, k int) uint32 {
	return uint32(r.Uint64() & (1<<k - 1))
}

// mustPut puts, and it must be done.
func mustPut(t *testing.T, w *bits.Writer, n uint32, k int) {
	t.Helper()
	if e := w.Put(n, k); e != api.OK {
		t.Fatalf("Put(%d, %d): %d", n, k, e)
	}
}

// mustGet gets, and it must be n.
func mustGet(t *testing.T, r *bits.Reader, k int, n uint32) {
	t.Helper()
	if got, e := r.Get(k); got != n || e != api.OK {
		t.Fatalf("Get(%d) = %d, %d, want %d", k, got, e, n)
	}
}

// mustTake takes, and it must be b.
func mustTake(t *testing.T, w *bits.Writer, b ...byte) {
	t.Helper()
	if got := w.Take(); !bytes.Equal(got, b) {
		t.Fatalf("Take = %v, want %v", got, b)
	}
}

// P5.1: the chapter's examples of writers.
func TestWriterExamples(t *testing.T) {
	w := bits.NewWriter()
	mustPut(t, w, 5, 3)
	mustPut(t, w, 1, 1)
	mustPut(t, w, 0, 4)
	mustTake(t, w, 13)
	w = bits.NewWriter()
	mustPut(t, w, 1, 1)
	if e := w.Align(); e != api.OK {
		t.Error("Align:", e)
	}
	mustTake(t, w, 1)
	if e := w.Put(8, 3); e != api.ErrArg {
		t.Error("Put(8, 3):", e)
	}
}

// P5.2: the chapter's examples of readers.
func TestReaderExamples(t *testing.T) {
	r := bits.NewReader([]byte{13})
	mustGet(t, r, 3, 5)
	mustGet(t, r, 5, 1)
	if n, e := r.Get(1); n != 0 || e != api.ErrShort {
		t.Error("Get(1) =", n, e)
	}
}

// P5.1: each number of bits, from each place within a byte on, with the least, the greatest and drawn numbers.
func TestPutEachWidth(t *testing.T) {
	r := rand.New(rand.NewSource(51))
	for place := range 8 {
		for k := range 33 {
			most := uint32(1<<k - 1)
			for _, n := range []uint32{0, most, min(1, most), most / 2, most - most/2, below(r, k), below(r, k)} {
				w, want := bits.NewWriter(), &told{}
				for _, x := range [][2]uint32{{1<<place - 1, uint32(place)}, {n, uint32(k)}, {1, 1}} {
					mustPut(t, w, x[0], int(x[1]))
					want.put(x[0], int(x[1]))
				}
				if w.Bits() != place+k+1 {
					t.Errorf("Bits = %d, want %d", w.Bits(), place+k+1)
				}
				w.Align()
				want.align()
				if got, b := w.Take(), want.take(); !bytes.Equal(got, b) {
					t.Errorf("%d bits of %d from %d on: %v, want %v", k, n, place, got, b)
				}
			}
		}
	}
}

// P5.1: what may not be put, and that it changes nothing.
func TestPutRefused(t *testing.T) {
	w := bits.NewWriter()
	mustPut(t, w, 3, 2)
	refused := func(n uint32, k int) {
		if e := w.Put(n, k); e != api.ErrArg {
			t.Errorf("Put(%d, %d): %d", n, k, e)
		}
	}
	for _, k := range []int{-1, -8, -32, -64, math.MinInt, 33, 34, 40, 63, 64, 65, 256, math.MaxInt} {
		for _, n := range []uint32{0, 1, math.MaxUint32} {
			refused(n, k)
		}
	}
	for k := range 32 {
		for _, n := range []uint32{1 << k, 1<<k + 1, 1<<31 | 1<<k, math.MaxUint32} {
			refused(n, k)
		}
	}
	if w.Bits() != 2 {
		t.Error("Bits =", w.Bits())
	}
	mustTake(t, w)
	mustPut(t, w, 0, 6)
	mustTake(t, w, 3)
}

// P5.1: Align from each place within a byte, also twice, and what is put behind it.
func TestWriterAlign(t *testing.T) {
	for place := range 18 {
		w, want := bits.NewWriter(), &told{}
		mustPut(t, w, 1<<place-1, place)
		want.put(1<<place-1, place)
		for range 2 {
			if e := w.Align(); e != api.OK {
				t.Error("Align:", e)
			}
			want.align()
			if w.Bits() != len(want.bits) {
				t.Errorf("Bits behind %d and Align: %d, want %d", place, w.Bits(), len(want.bits))
			}
		}
		mustPut(t, w, 77, 8)
		want.put(77, 8)
		mustTake(t, w, want.take()...)
		mustTake(t, w)
	}
}

// P5.1: Take again and again gives each whole byte once, at the first call at which it is whole.
func TestTakeAgain(t *testing.T) {
	w := bits.NewWriter()
	mustTake(t, w)
	mustPut(t, w, 1<<7-1, 7)
	mustTake(t, w)
	mustTake(t, w)
	mustPut(t, w, 1, 1)
	mustTake(t, w, 127+128)
	mustTake(t, w)
	mustPut(t, w, 0x030201, 25)
	mustTake(t, w, 1, 2, 3)
	mustTake(t, w)
	mustPut(t, w, 127, 7)
	mustTake(t, w, 254)
	mustTake(t, w)
	if w.Bits() != 40 {
		t.Error("Bits =", w.Bits())
	}
}

// P5.1: drawn calls, one behind the other, are as told.
func TestWriterDrawn(t *testing.T) {
	r := rand.New(rand.NewSource(52))
	for range 200 {
		w, want := bits.NewWriter(), &told{}
		for range 100 {
			switch r.Intn(8) {
			case 0:
				w.Align()
				want.align()
			case 1:
				mustTake(t, w, want.take()...)
			case 2:
				w.Put(1, 33)
				w.Put(1<<9, 9)
			default:
				k := r.Intn(33)
				n := below(r, k)
				mustPut(t, w, n, k)
				want.put(n, k)
			}
			if w.Bits() != len(want.bits) {
				t.Fatalf("Bits = %d, want %d", w.Bits(), len(want.bits))
			}
		}
		mustTake(t, w, want.take()...)
	}
}

// P5.2: each number of bits, from each place within a byte on.
func TestGetEachWidth(t *testing.T) {
	r := rand.New(rand.NewSource(53))
	drawn := make([]byte, 6)
	for place := range 8 {
		for k := range 33 {
			r.Read(drawn)
			for _, b := range [][]byte{drawn, bytes.Repeat([]byte{255}, 6), make([]byte, 6)} {
				reader, want := bits.NewReader(b), split(b)
				for _, n := range []int{place, k, 48 - place - k} {
					if n <= 32 {
						mustGet(t, reader, n, want.number(n))
					}
					if reader.At() != want.taken {
						t.Fatalf("At = %d, want %d", reader.At(), want.taken)
					}
				}
			}
		}
	}
}

// P5.2: what may not be got, also where nothing is left; nothing is taken by it.
func TestGetRefused(t *testing.T) {
	for _, b := range [][]byte{nil, {}, {9}, {9, 8, 7, 6, 5, 4, 3, 2, 1}} {
		r := bits.NewReader(b)
		for _, k := range []int{-1, -8, -32, math.MinInt, 33, 34, 40, 64, 65, math.MaxInt} {
			if n, e := r.Get(k); n != 0 || e != api.ErrArg {
				t.Errorf("Get(%d) = %d, %d", k, n, e)
			}
		}
		if r.At() != 0 {
			t.Error("At =", r.At())
		}
		if len(b) > 0 {
			mustGet(t, r, 8, 9)
		}
	}
}

// P5.2: with too few bits left, none is taken, and what is left can be got; no bits can always be got.
func TestGetShort(t *testing.T) {
	all := []byte{255, 255, 255, 255}
	for long := range 5 {
		for place := range 8*long + 1 {
			left := 8*long - place
			r := bits.NewReader(all[:long])
			mustGet(t, r, place, uint32(1<<place-1))
			for k := left + 1; k <= 32; k++ {
				if n, e := r.Get(k); n != 0 || e != api.ErrShort || r.At() != place {
					t.Fatalf("%d bytes, Get(%d) at %d = %d, %d; At = %d", long, k, place, n, e, r.At())
				}
			}
			mustGet(t, r, 0, 0)
			mustGet(t, r, left, uint32(1<<left-1))
			mustGet(t, r, 0, 0)
			if n, e := r.Get(1); n != 0 || e != api.ErrShort || r.At() != 8*long {
				t.Fatal("behind the end:", n, e, r.At())
			}
		}
	}
}

// P5.2: Align from each place within a byte, also twice, at the end and of no bytes.
func TestReaderAlign(t *testing.T) {
	b := []byte{1, 2, 3}
	for place := range 25 {
		r := bits.NewReader(b)
		mustGet(t, r, place, uint32(0x030201&(1<<place-1)))
		to := (place + 7) / 8
		for range 2 {
			if e := r.Align(); e != api.OK || r.At() != 8*to {
				t.Errorf("Align at %d: %d, At = %d", place, e, r.At())
			}
		}
		if to < len(b) {
			mustGet(t, r, 8, uint32(b[to]))
		}
	}
	none := bits.NewReader(nil)
	if e := none.Align(); e != api.OK || none.At() != 0 {
		t.Error("Align of no bytes:", e, none.At())
	}
}

// P5.2: drawn calls, one behind the other, are as told.
func TestReaderDrawn(t *testing.T) {
	r := rand.New(rand.NewSource(54))
	for range 300 {
		b := make([]byte, r.Intn(200))
		r.Read(b)
		reader, want := bits.NewReader(b), split(b)
		for range 100 {
			k := r.Intn(33)
			if r.Intn(8) == 0 {
				reader.Align()
				want.taken = (want.taken + 7) / 8 * 8
			} else if k > len(want.bits)-want.taken {
				if n, e := reader.Get(k); n != 0 || e != api.ErrShort {
					t.Fatalf("Get(%d) = %d, %d", k, n, e)
				}
			} else {
				mustGet(t, reader, k, want.number(k))
			}
			if reader.At() != want.taken {
				t.Fatalf("At = %d, want %d", reader.At(), want.taken)
			}
		}
	}
}

// P5.3: what was put is got, number by number, with Align between, however it is taken.
func TestPutAndGot(t *testing.T) {
	type number struct {
		n uint32
		k int
	}
	r := rand.New(rand.NewSource(55))
	for range 100 {
		w := bits.NewWriter()
		var all []number
		var b []byte
		for range r.Intn(300) {
			k := r.Intn(34) - 1
			x := number{below(r, max(k, 0)), k}
			if k < 0 {
				w.Align()
			} else {
				mustPut(t, w, x.n, x.k)
			}
			all = append(all, x)
			if r.Intn(3) == 0 {
				b = append(b, w.Take()...)
			}
		}
		w.Align()
		b = append(b, w.Take()...)
		reader := bits.NewReader(b)
		for _, x := range all {
			if x.k < 0 {
				reader.Align()
			} else {
				mustGet(t, reader, x.k, x.n)
			}
		}
		reader.Align()
		if reader.At() != w.Bits() {
			t.Errorf("At = %d, Bits = %d", reader.At(), w.Bits())
		}
	}
}

// P5.1, R5: writers that there are not, and those that no call made.
func TestNoWriter(t *testing.T) {
	for _, w := range []*bits.Writer{nil, {}, new(bits.Writer)} {
		for range 2 {
			for _, e := range []api.Errno{w.Put(1, 1), w.Put(0, 0), w.Put(8, 3), w.Put(0, -1), w.Put(0, 33), w.Align()} {
				if e != api.ErrNil {
					t.Error("no writer:", e)
				}
			}
			if b := w.Take(); len(b) != 0 || w.Bits() != 0 {
				t.Error("no writer:", b, w.Bits())
			}
		}
	}
}

// P5.2, R5: readers that there are not, and those that no call made.
func TestNoReader(t *testing.T) {
	for _, r := range []*bits.Reader{nil, {}, new(bits.Reader)} {
		for range 2 {
			for _, k := range []int{0, 1, 32, 33, -1} {
				if n, e := r.Get(k); n != 0 || e != api.ErrNil {
					t.Error("no reader:", n, e)
				}
			}
			if e := r.Align(); e != api.ErrNil || r.At() != 0 {
				t.Error("no reader:", e, r.At())
			}
		}
	}
}

// P5.2, R3: a reader has memory of its own, and leaves what it was handed as it is.
func TestReaderMemory(t *testing.T) {
	whole := []byte{1, 2, 3, 4}
	r := bits.NewReader(whole[:2])
	mustGet(t, r, 4, 1)
	if !slices.Equal(whole, []byte{1, 2, 3, 4}) {
		t.Error("what was handed in is changed:", whole)
	}
	whole[0], whole[1] = 255, 255
	mustGet(t, r, 12, 0x020)
	if n, e := r.Get(1); n != 0 || e != api.ErrShort {
		t.Error("spare room is got:", n, e)
	}
}

// P5.1, R3: what is taken is new each time: nothing put later changes it, nor does what is done to it change the writer.
func TestTakeMemory(t *testing.T) {
	w := bits.NewWriter()
	mustPut(t, w, 0x0a0102, 20)
	first := w.Take()
	first = append(first, 99, 98, 97)
	mustPut(t, w, 0xb, 4)
	mustPut(t, w, 0x06050403, 32)
	second := w.Take()
	if !slices.Equal(first, []byte{2, 1, 99, 98, 97}) || !slices.Equal(second, []byte{0xba, 3, 4, 5, 6}) {
		t.Error(first, second)
	}
	clear(first[:cap(first)])
	clear(second[:cap(second)])
	mustPut(t, w, 7, 8)
	mustTake(t, w, 7)
}

// R4: two writers, and two readers of the same bytes, have nothing in common.
func TestApart(t *testing.T) {
	a, b := bits.NewWriter(), bits.NewWriter()
	mustPut(t, a, 1, 4)
	mustPut(t, b, 2, 4)
	mustPut(t, a, 3, 4)
	if a.Bits() != 8 || b.Bits() != 4 {
		t.Error("Bits =", a.Bits(), b.Bits())
	}
	mustTake(t, b)
	mustTake(t, a, 0x31)
	both := []byte{0x21}
	c, d := bits.NewReader(both), bits.NewReader(both)
	mustGet(t, c, 4, 1)
	mustGet(t, d, 8, 0x21)
	mustGet(t, c, 4, 2)
}
