package community

import (
	"strings"

	"routing/api"
	"routing/field"
)

// The well-known communities, and in the same order their names.
var (
	wellKnown = [4]uint32{api.GracefulShutdown, api.NoExport, api.NoAdvertise, api.NoExportConfed}
	names     = [4]string{"graceful-shutdown", "no-export", "no-advertise", "no-export-confed"}
)

// Text returns the text form of a community.
func Text(c uint32) string {
	for i, known := range wellKnown {
		if c == known {
			return names[i]
		}
	}
	return field.Decimal(high(c)) + ":" + field.Decimal(low(c))
}

// Parse parses the text form.
func Parse(s string) (uint32, api.Errno) {
	for i, name := range names {
		if s == name {
			return wellKnown[i], api.OK
		}
	}
	before, after, _ := strings.Cut(s, ":")
	first, errFirst := field.Number(before, maxPart)
	second, errSecond := field.Number(after, maxPart)
	if errFirst != api.OK || errSecond != api.OK {
		return 0, api.ErrSyntax
	}
	c := uint32(first)<<16 | uint32(second)
	// A well-known community has its name as its only text.
	if Text(c) != s {
		return 0, api.ErrSyntax
	}
	return c, api.OK
}
