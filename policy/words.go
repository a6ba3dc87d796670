package policy

import "routing/api"

// maxNumber is the greatest number that a text may have.
const maxNumber = 1<<32 - 1

// What the form of a match or an action takes behind its word.
const (
	takesList      = 1 + iota // the name of a list
	takesNumber               // N
	takesPrefix               // Prefix
	takesAddress              // Addr
	takesCommunity            // Community
	takesCount                // AS, N
)

// form describes the matches or the actions of a kind.
type form struct {
	word      string
	takes     int
	low, high int // the range of N
}

// forms are those of all kinds, by kind; no kind is 0.
type forms [9]form

var matchForms = forms{
	api.MatchPrefixList:    {word: "prefix-list", takes: takesList},
	api.MatchPathList:      {word: "path-list", takes: takesList},
	api.MatchCommunityList: {word: "community-list", takes: takesList},
	api.MatchProtocol:      {word: "protocol", takes: takesNumber, low: api.ProtoConnected, high: api.ProtoIBGP},
	api.MatchTag:           {word: "tag", takes: takesNumber, high: maxNumber},
	api.MatchMetric:        {word: "metric", takes: takesNumber, high: api.MaxCost},
	api.MatchNextHop:       {word: "next-hop", takes: takesPrefix},
	api.MatchPathLength:    {word: "path-length", takes: takesNumber, high: api.MaxEntries},
}

var actionForms = forms{
	api.SetPref:         {word: "pref", takes: takesNumber, high: maxNumber},
	api.SetMED:          {word: "med", takes: takesNumber, high: maxNumber},
	api.SetMetric:       {word: "metric", takes: takesNumber, high: api.MaxCost},
	api.SetTag:          {word: "tag", takes: takesNumber, high: maxNumber},
	api.SetNextHop:      {word: "next-hop", takes: takesAddress},
	api.AddCommunity:    {word: "add", takes: takesCommunity},
	api.DeleteCommunity: {word: "delete", takes: takesCommunity},
	api.Prepend:         {word: "prepend", takes: takesCount, low: 1, high: api.MaxDepth},
}

// verdicts are the words of the verdicts, by verdict.
var verdicts = [4]string{api.Accept: "accept", api.Reject: "reject", api.NextTerm: "next"}

// has reports whether a kind exists.
func (l forms) has(kind int) bool { return kind > 0 && kind < len(l) }

// kind returns the kind with a word, and 0 if there is none.
func (l forms) kind(word string) int {
	for kind, f := range l {
		if f.word == word {
			return kind
		}
	}
	return 0
}

// allows reports whether n is in the range of N.
func (f form) allows(n int) bool { return n >= f.low && n <= f.high }

// verdict returns the verdict with a word, and 0 if there is none.
func verdict(word string) int {
	for v, w := range verdicts {
		if w == word {
			return v
		}
	}
	return 0
}
