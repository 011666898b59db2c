package encode_test

import (
	"bytes"
	"math"
	"slices"
	"testing"

	"retarget/api"
	"retarget/encode"
)

// bytesOf is the chapter's definition of the bytes of words, with divisions.
func bytesOf(m api.Machine, words []uint64) []byte {
	var b []byte
	for _, word := range words {
		for range m.Word {
			b = append(b, byte(word%256))
			word /= 256
		}
	}
	return b
}

// areBytes fails unless these are the bytes of words, and the words with these bytes.
func areBytes(t *testing.T, m api.Machine, words []uint64, b []byte) {
	t.Helper()
	if l, e := encode.Bytes(m, words); !bytes.Equal(l, b) || e != api.OK {
		t.Errorf("%d bytes a word, %x: %x %v, not %x", m.Word, words, l, e, b)
	}
	if l, e := encode.Words(m, b); !slices.Equal(l, words) || e != api.OK {
		t.Errorf("%d bytes a word, %x: %x %v, not %x", m.Word, b, l, e, words)
	}
}

// noBytes fails unless Bytes has this error.
func noBytes(t *testing.T, m api.Machine, words []uint64, want api.Errno) {
	t.Helper()
	if b, e := encode.Bytes(m, words); len(b) > 0 || e != want {
		t.Errorf("%d bytes a word, %d words: %d bytes, %v, not %v", m.Word, len(words), len(b), e, want)
	}
}

// noWords fails unless Words and Ops have this error for so many bytes.
func noWords(t *testing.T, m api.Machine, n int, want api.Errno) {
	t.Helper()
	if l, e := encode.Words(m, make([]byte, n)); len(l) > 0 || e != want {
		t.Errorf("%d bytes a word, %d bytes: %d words, %v, not %v", m.Word, n, len(l), e, want)
	}
	if l, at, e := encode.Ops(m, make([]byte, n)); len(l) > 0 || at != 0 || e != want {
		t.Errorf("%d bytes a word, %d bytes: %d ops, %d, %v, not %v", m.Word, n, len(l), at, e, want)
	}
}

func TestP12_3(t *testing.T) {
	areBytes(t, made(1), []uint64{1, 0, 255, 128}, []byte{1, 0, 255, 128})
	areBytes(t, made(2), []uint64{0x0102, 0xfffe, 0, 0x8000}, []byte{2, 1, 254, 255, 0, 0, 0, 128})
	areBytes(t, made(3), []uint64{0x010203, 0xff0000, 0x0000ff}, []byte{3, 2, 1, 0, 0, 255, 255, 0, 0})
	areBytes(t, made(4), []uint64{0x01020304, 0xffffffff, 0x80000000, 1}, []byte{4, 3, 2, 1, 255, 255, 255, 255, 0, 0, 0, 128, 1, 0, 0, 0})
	// The chapter's example.
	areBytes(t, api.Given(0), []uint64{0x0048c000}, []byte{0, 192, 72, 0})
	for size := 1; size <= 4; size++ {
		areBytes(t, made(size), nil, nil)
		areBytes(t, made(size), []uint64{}, []byte{})
	}
}

// TestP12_3Chance has words of all sizes by chance, also those that are legal for no instruction.
func TestP12_3Chance(t *testing.T) {
	r := newMaker(6)
	for i := range 400 {
		m := r.machine(1+i%4, 2)
		words := make([]uint64, r.IntN(20))
		for at := range words {
			words[at] = r.word(m)
		}
		areBytes(t, m, words, bytesOf(m, words))
	}
}

// TestP12_3Many has lists at their limit and above it; lists that are too long have this error before that of a word.
func TestP12_3Many(t *testing.T) {
	for size := 1; size <= 4; size++ {
		m := made(size)
		most := make([]uint64, api.MaxWords)
		most[0], most[api.MaxWords-1] = limit(m)-1, limit(m)-2
		areBytes(t, m, most, bytesOf(m, most))
		noBytes(t, m, append(most, 0), api.ErrMany)
		noBytes(t, m, append(most, limit(m)), api.ErrMany)
		noBytes(t, m, slices.Repeat([]uint64{math.MaxUint64}, api.MaxWords+1), api.ErrMany)
		noBytes(t, m, slices.Repeat([]uint64{math.MaxUint64}, api.MaxWords), api.ErrRange)
		noBytes(t, m, make([]uint64, 1<<20), api.ErrMany)
		noWords(t, m, (api.MaxWords+1)*size, api.ErrMany)
		noWords(t, m, size<<20, api.ErrMany)
	}
}

// TestP12_3Range has words that are none, at each place.
func TestP12_3Range(t *testing.T) {
	for size := 1; size <= 4; size++ {
		m := made(size)
		for _, word := range []uint64{limit(m), limit(m) + 1, 2 * limit(m), 1 << 32, 1 << 63, math.MaxUint64} {
			for at := range 4 {
				words := []uint64{1, 2, 3, 4}
				words[at] = word
				noBytes(t, m, words, api.ErrRange)
			}
		}
	}
}

// TestP12_3Arg has numbers of bytes that are no multiple, also where there are too many of them.
func TestP12_3Arg(t *testing.T) {
	for size := 2; size <= 4; size++ {
		m := made(size)
		for n := range 30 {
			if n%size != 0 {
				noWords(t, m, n, api.ErrArg)
			}
		}
		for n := 1; n < size; n++ {
			noWords(t, m, api.MaxWords*size-n, api.ErrArg)
			noWords(t, m, api.MaxWords*size+n, api.ErrArg)
			noWords(t, m, (api.MaxWords+1)*size+n, api.ErrArg)
			noWords(t, m, size<<20-n, api.ErrArg)
		}
	}
}
