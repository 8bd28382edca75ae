package deflate

import "slices"

const (
	reach    = 32768 // so far back a match may be
	shortest = 3     // bytes of a match, at least
	longest  = 258   // and at most
)

// part is what stands for some bytes of a block: one byte itself, or a match so far back.
type part struct {
	length int
	back   int // 0: the byte itself
}

// window is the bytes that a match may reach, with those of the block behind them.
// Where three bytes stand is told by their greatest place, and for each place by how far below it the same three stand: so all places of them are found one by one, the nearest first.
type window struct {
	bytes []byte
	first int            // the place of the first of bytes, from the writer's beginning on
	steps []int32        // of each place with three bytes: down to the next place of the same three; 0: there is none
	last  map[uint32]int // of three bytes: their greatest place
}

// newWindow makes a window without bytes.
func newWindow() window {
	return window{last: map[uint32]int{}}
}

// add puts b behind all bytes.
func (w *window) add(b []byte) {
	w.bytes = append(w.bytes, b...)
	for i := len(w.steps); i+shortest <= len(w.bytes); i++ {
		three, place := w.three(i), w.first+i
		step := 0
		if p, ok := w.last[three]; ok {
			step = place - p
		}
		w.steps = append(w.steps, int32(step))
		w.last[three] = place
	}
}

// three tells the three bytes from i on as one number.
func (w *window) three(i int) uint32 {
	return uint32(w.bytes[i]) | uint32(w.bytes[i+1])<<8 | uint32(w.bytes[i+2])<<16
}

// forget drops all bytes that no match of what comes behind them may reach.
func (w *window) forget() {
	n := len(w.bytes) - reach
	if n <= 0 {
		return
	}
	for i := range n {
		if three := w.three(i); w.last[three] == w.first+i {
			delete(w.last, three)
		}
	}
	w.bytes = slices.Delete(w.bytes, 0, n)
	w.steps = slices.Delete(w.steps, 0, n)
	w.first += n
}

// parts tells what stands for the bytes from a on.
func (w *window) parts(a int) []part {
	var parts []part
	for i := a; i < len(w.bytes); {
		p := w.match(i)
		if p.length < shortest {
			p = part{length: 1}
		}
		parts = append(parts, p)
		i += p.length
	}
	return parts
}

// match tells the longest match of the bytes from i on, the nearest of these; of length 0, if none has three bytes.
func (w *window) match(i int) part {
	most := min(longest, len(w.bytes)-i)
	var best part
	if most < shortest {
		return best
	}
	for from, back := i, 0; ; {
		step := int(w.steps[from-back])
		back += step
		if step == 0 || back > min(i, reach) {
			return best
		}
		if back <= best.back {
			continue // those were asked by the three bytes ahead, or have not even these
		}
		if n := w.same(i, back, most); n > best.length {
			best = part{n, back}
			if n == most {
				return best
			}
			from, back = i+n-2, 0 // any longer one has the three bytes from there on too, and fewer places have these
		}
	}
}

// same tells how many bytes from i on, most at most, are those that stand so far back.
func (w *window) same(i, back, most int) int {
	n := 0
	for n < most && w.bytes[i+n] == w.bytes[i+n-back] {
		n++
	}
	return n
}
