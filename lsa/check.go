package lsa

import (
	"cmp"
	"slices"

	"routing/api"
	"routing/prefix"
)

// checkHeader returns the first error of a header.
func checkHeader(h api.LSAHeader) api.Errno {
	if h.Type < api.LSARouter || h.Type > api.LSAExternal {
		return api.ErrKind
	}
	if h.Router == 0 || h.Seq < api.InitSeq || h.Seq > api.MaxSeq || h.Age < 0 || h.Age > api.MaxAge || h.Sum < 0 || h.Sum > 65535 {
		return api.ErrRange
	}
	longest := 32
	if h.Type == api.LSARouter || h.Type == api.LSABoundary {
		longest = 0
	}
	if h.Len < 0 || h.Len > longest {
		return api.ErrRange
	}
	return checkID(h)
}

// checkID checks the ID of a header whose other fields are in range.
func checkID(h api.LSAHeader) api.Errno {
	valid := true
	switch h.Type {
	case api.LSARouter:
		if h.ID != h.Router {
			return api.ErrMismatch
		}
	case api.LSANetwork, api.LSABoundary:
		valid = h.ID != 0
	default:
		valid = prefix.Valid(api.Prefix{Addr: api.Addr(h.ID), Len: h.Len})
	}
	if !valid {
		return api.ErrInvalid
	}
	return api.OK
}

// onlyOwn reports whether the fields that do not belong to the type of l are zero or empty.
func onlyOwn(l api.LSA) bool {
	kind := l.Header.Type
	router := !l.Border && !l.Boundary && len(l.Links) == 0
	network := len(l.Attached) == 0
	external := !l.Second && l.Forward == 0 && l.Tag == 0
	return (kind == api.LSARouter || router) && (kind == api.LSANetwork || network) &&
		(kind >= api.LSASummary || l.Cost == 0) && (kind == api.LSAExternal || external)
}

// checkLinks checks the links of a router advertisement.
func checkLinks(l api.LSA) api.Errno {
	if len(l.Links) > api.MaxList {
		return api.ErrTooLong
	}
	for i, k := range l.Links {
		if e := checkLink(k, l.Header.Router); e != api.OK {
			return e
		}
		if i > 0 && compareLinks(l.Links[i-1], k) >= 0 {
			return api.ErrOrder
		}
	}
	return api.OK
}

// checkLink checks a link of the router with this number.
func checkLink(k api.LSLink, router uint32) api.Errno {
	if k.Kind < api.LinkPoint || k.Kind > api.LinkStub {
		return api.ErrKind
	}
	if k.Cost < 1 || k.Cost > api.MaxMetric {
		return api.ErrRange
	}
	if k.Kind == api.LinkPoint && (k.ID == 0 || k.ID == router) {
		return api.ErrInvalid
	}
	if k.Kind == api.LinkStub && !prefix.Valid(api.Prefix{Addr: api.Addr(k.ID), Len: int(k.Data)}) {
		return api.ErrInvalid
	}
	return api.OK
}

// compareLinks orders links by kind, ID and data.
func compareLinks(a, b api.LSLink) int {
	return cmp.Or(cmp.Compare(a.Kind, b.Kind), cmp.Compare(a.ID, b.ID), cmp.Compare(a.Data, b.Data))
}

// checkAttached checks the attached routers of a network advertisement.
func checkAttached(l api.LSA) api.Errno {
	if len(l.Attached) > api.MaxList {
		return api.ErrTooLong
	}
	last := uint32(0)
	for _, r := range l.Attached {
		if r <= last {
			return api.ErrOrder
		}
		last = r
	}
	if !slices.Contains(l.Attached, l.Header.Router) {
		return api.ErrMismatch
	}
	return api.OK
}
