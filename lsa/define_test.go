package lsa_test

import (
	"encoding/binary"
	"math/big"
	"slices"

	"routing/api"
)

const (
	maxList   = 64
	maxMetric = 65535
	maxCost   = 1 << 24
	maxSeq    = 1<<31 - 1
	maxAge    = 3600
	maxAS     = 1<<32 - 1
)

// wire is the encoding of an advertisement, with its Sum as it stands.
func wire(l api.LSA) []byte {
	body := wireBody(l)
	b := append(wireHeader(l.Header), byte(len(body)/256), byte(len(body)%256))
	return append(b, body...)
}

func wireHeader(h api.LSAHeader) []byte {
	big := binary.BigEndian
	b := big.AppendUint16(nil, uint16(h.Age))
	b = append(b, byte(h.Type), byte(h.Len))
	b = big.AppendUint32(b, h.ID)
	b = big.AppendUint32(b, h.Router)
	b = big.AppendUint32(b, uint32(h.Seq))
	return big.AppendUint16(b, uint16(h.Sum))
}

func wireBody(l api.LSA) []byte {
	big := binary.BigEndian
	switch l.Header.Type {
	case 1:
		b := []byte{0, byte(len(l.Links))}
		if l.Border {
			b[0]++
		}
		if l.Boundary {
			b[0] += 2
		}
		for _, k := range l.Links {
			b = append(b, byte(k.Kind))
			b = big.AppendUint32(b, k.ID)
			b = big.AppendUint32(b, k.Data)
			b = big.AppendUint16(b, uint16(k.Cost))
		}
		return b
	case 2:
		b := []byte{byte(len(l.Attached))}
		for _, r := range l.Attached {
			b = big.AppendUint32(b, r)
		}
		return b
	case 3, 4:
		return big.AppendUint32(nil, uint32(l.Cost))
	}
	b := []byte{0}
	if l.Second {
		b[0] = 1
	}
	b = big.AppendUint32(b, uint32(l.Cost))
	b = big.AppendUint32(b, uint32(l.Forward))
	return big.AppendUint32(b, uint32(l.Tag))
}

// sumOf is the Sum that seals an advertisement, found by trying all pairs of bytes from 1 to 255.
func sumOf(l api.LSA) int {
	b := wire(l)[2:]
	b[14], b[15] = 0, 0
	first, second := 0, 0
	for i, c := range b {
		first += int(c)
		second += (len(b) - i) * int(c)
	}
	for x := 1; x < 256; x++ {
		for y := 1; y < 256; y++ {
			if (first+x+y)%255 == 0 && (second+(len(b)-14)*x+(len(b)-15)*y)%255 == 0 {
				return 256*x + y
			}
		}
	}
	panic("no sum")
}

// sealed returns l with the Sum that seals it.
func sealed(l api.LSA) api.LSA {
	l.Header.Sum = sumOf(l)
	return l
}

// rule is an error and whether it applies.
type rule struct {
	e     api.Errno
	wrong bool
}

// first returns the error of the first rule that applies.
func first(rules ...rule) api.Errno {
	for _, r := range rules {
		if r.wrong {
			return r.e
		}
	}
	return api.OK
}

func out(x, low, high int) bool { return x < low || x > high }

// stray reports whether the address has bits behind its first n ones, or no prefix has this length.
func stray(address uint32, n int) bool {
	return out(n, 0, 32) || uint64(address)%(1<<(32-n)) != 0
}

// headerError is the definition of CheckHeader.
func headerError(h api.LSAHeader) api.Errno {
	ofPrefix := h.Type == 2 || h.Type == 3 || h.Type == 5
	return first(
		rule{api.ErrKind, out(h.Type, 1, 5)},
		rule{api.ErrRange, h.Router == 0 || out(h.Seq, 1, maxSeq) || out(h.Age, 0, maxAge) || out(h.Sum, 0, 65535)},
		rule{api.ErrRange, ofPrefix && out(h.Len, 0, 32) || !ofPrefix && h.Len != 0},
		rule{api.ErrMismatch, h.Type == 1 && h.ID != h.Router},
		rule{api.ErrInvalid, (h.Type == 3 || h.Type == 5) && stray(h.ID, h.Len)},
		rule{api.ErrInvalid, (h.Type == 2 || h.Type == 4) && h.ID == 0},
	)
}

// blank returns l without the fields of its type.
func blank(l api.LSA) api.LSA {
	switch l.Header.Type {
	case 1:
		l.Border, l.Boundary, l.Links = false, false, nil
	case 2:
		l.Attached = nil
	case 3, 4:
		l.Cost = 0
	case 5:
		l.Cost, l.Second, l.Forward, l.Tag = 0, false, 0, 0
	}
	return l
}

// checkError is the promise of Check.
func checkError(l api.LSA) api.Errno {
	if e := headerError(l.Header); e != api.OK {
		return e
	}
	o := blank(l)
	if o.Border || o.Boundary || len(o.Links) > 0 || len(o.Attached) > 0 || o.Cost != 0 || o.Second || o.Forward != 0 || o.Tag != 0 {
		return api.ErrInvalid
	}
	switch l.Header.Type {
	case 1:
		return linksError(l.Links, l.Header.Router)
	case 2:
		sorted := slices.Compact(slices.Sorted(slices.Values(l.Attached)))
		return first(
			rule{api.ErrTooLong, len(l.Attached) > maxList},
			rule{api.ErrOrder, !slices.Equal(sorted, l.Attached) || slices.Contains(l.Attached, 0)},
			rule{api.ErrMismatch, !slices.Contains(l.Attached, l.Header.Router)},
		)
	case 5:
		return first(rule{api.ErrRange, out(l.Cost, 0, maxCost) || out(l.Tag, 0, maxAS)})
	}
	return first(rule{api.ErrRange, out(l.Cost, 0, maxCost)})
}

func linksError(l []api.LSLink, router uint32) api.Errno {
	if len(l) > maxList {
		return api.ErrTooLong
	}
	for i, k := range l {
		e := first(
			rule{api.ErrKind, out(k.Kind, 1, 3)},
			rule{api.ErrRange, out(k.Cost, 1, maxMetric)},
			rule{api.ErrInvalid, k.Kind == 1 && (k.ID == 0 || k.ID == router)},
			rule{api.ErrInvalid, k.Kind == 3 && (k.Data > 32 || stray(k.ID, int(k.Data)))},
			rule{api.ErrOrder, i > 0 && slices.Compare(places(l[i-1]), places(k)) != -1},
		)
		if e != api.OK {
			return e
		}
	}
	return api.OK
}

// places are what decides about the order of a link.
func places(k api.LSLink) []int { return []int{k.Kind, int(k.ID), int(k.Data)} }

// newer is the promise of Compare.
func newer(a, b api.LSAHeader) int {
	if a.Seq != b.Seq {
		return slices.Compare([]int{a.Seq}, []int{b.Seq})
	}
	if a.Sum != b.Sum {
		return slices.Compare([]int{a.Sum}, []int{b.Sum})
	}
	if (a.Age == maxAge) != (b.Age == maxAge) {
		if a.Age == maxAge {
			return 1
		}
		return -1
	}
	d := new(big.Int).Sub(big.NewInt(int64(a.Age)), big.NewInt(int64(b.Age)))
	if new(big.Int).Abs(d).Cmp(big.NewInt(900)) > 0 {
		return -d.Sign()
	}
	return 0
}

// same is the promise of SameBody.
func same(a, b api.LSA) bool {
	x, y := a.Header, b.Header
	return x.Type == y.Type && x.ID == y.ID && x.Len == y.Len && x.Router == y.Router &&
		a.Border == b.Border && a.Boundary == b.Boundary && a.Cost == b.Cost && a.Second == b.Second && a.Forward == b.Forward && a.Tag == b.Tag &&
		slices.Equal(a.Links, b.Links) && slices.Equal(a.Attached, b.Attached)
}

// equal reports whether all fields of two advertisements are equal.
func equal(a, b api.LSA) bool { return a.Header == b.Header && same(a, b) }
