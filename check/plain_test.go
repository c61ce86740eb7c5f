package check_test

import (
	"regexp"
	"slices"
	"strings"
	"unicode/utf8"

	"gong/api"
	"gong/glob"
)

// The fields by the chapter's words, and those of chapters 6 and 10.
var (
	trapForm = regexp.MustCompile(`\A(?:source|community|trap|uptime|request|inform|bind\.([0-9.]+)|bind#([1-9][0-9]{0,3}))\z`)
	logForm  = regexp.MustCompile(`\A(?:source|facility|level|stamp|host|app|proc|id|text|sd\.[!#-<>-\\^-~]{1,32}\.[!#-\-/-<>-\\^-~]{1,32})\z`)
	arcForm  = regexp.MustCompile(`\A(?:0|[1-9][0-9]{0,9})\z`)
)

// number is that of at most ten digits.
func number(digits string) (n int) {
	for _, c := range digits {
		n = 10*n + int(c-'0')
	}
	return n
}

func plainOid(s string) bool {
	words := strings.Split(s, ".")
	if len(words) < 2 || len(words) > 128 {
		return false
	}
	for _, w := range words {
		if !arcForm.MatchString(w) || number(w) > 1<<32-1 {
			return false
		}
	}
	most := map[string]int{"0": 39, "1": 39, "2": 1<<32 - 81}
	second, ok := most[words[0]]
	return ok && number(words[1]) <= second
}

func plainIsField(from int, name string) bool {
	if from == 2 {
		return logForm.MatchString(name)
	}
	x := trapForm.FindStringSubmatch(name)
	switch {
	case from != 1 || x == nil:
		return false
	case x[1] != "":
		return plainOid(x[1])
	}
	return number(x[2]) <= 4096
}

// plainGlob is chapter 13's: its own tests hold it to that.
func plainGlob(s string) bool {
	_, e := glob.Parse(s)
	return e == api.OK
}

// once tells whether no two of these are the same.
func once(l []string) bool {
	l = slices.Clone(l)
	slices.Sort(l)
	return len(slices.Compact(slices.Clone(l))) == len(l)
}

func plainTable(t api.Table) bool {
	var keys []string
	for _, k := range t.Keys {
		keys = append(keys, k.Name)
	}
	return len(keys) <= 1024 && once(keys)
}

var levelForm = regexp.MustCompile(`\A[0-5]\z`)

func plainRule(r api.Rule, b api.Book) bool {
	right := r.Oid == "" || plainOid(r.Oid)
	for _, t := range r.Tests {
		right = right && plainIsField(r.From, t.Field) && plainGlob(t.Glob)
	}
	var parts []string
	for _, s := range r.Sets {
		parts = append(parts, s.Name)
		texts, made := true, ""
		for _, p := range s.Pieces {
			texts = texts && p.Kind == 1
			made += p.Text
			if p.Kind == 2 || p.Kind == 3 {
				right = right && plainIsField(r.From, p.Text)
			}
			if p.Kind == 3 {
				right = right && slices.ContainsFunc(b.Tables, func(t api.Table) bool { return t.Name == p.Table })
			}
		}
		right = right && (s.Name != "level" || !texts || levelForm.MatchString(made))
		right = right && slices.Contains([]string{"node", "class", "key", "level", "text"}, s.Name)
	}
	if r.Drop {
		return right && len(parts) == 0
	}
	return right && once(parts) && slices.Contains(parts, "node") && slices.Contains(parts, "class")
}

func plainWatch(w api.Watch) bool {
	if w.Class == "" || !plainGlob(w.Class) || w.Window < 1 || w.Window > 1<<57 {
		return false
	}
	raises := len(w.Raise) >= 1 && len(w.Raise) <= 64 && utf8.ValidString(w.Raise) && len(w.Text) <= 1024 && utf8.ValidString(w.Text) && w.Level >= 1 && w.Level <= 5
	switch w.Kind {
	case 1, 2:
		return w.Other != "" && plainGlob(w.Other) && w.Count == 0 && w.Raise == ""
	case 3:
		return w.Other == "" && w.Count >= 2 && w.Count <= 1000 && raises
	case 4:
		return w.Other == "" && w.Count == 0 && raises
	}
	return false
}

// plainCheck is Check by the chapter's words.
func plainCheck(b api.Book) (int, api.Code) {
	if len(b.Tables) > 64 || len(b.Rules) > 256 || len(b.Watches) > 64 {
		return 0, 2
	}
	for i, t := range b.Tables {
		if !plainTable(t) || slices.ContainsFunc(b.Tables[:i], func(x api.Table) bool { return x.Name == t.Name }) {
			return t.Line, 160
		}
	}
	for i, r := range b.Rules {
		if !plainRule(r, b) || slices.ContainsFunc(b.Rules[:i], func(x api.Rule) bool { return x.Name == r.Name }) {
			return r.Line, 160
		}
	}
	for i, w := range b.Watches {
		if !plainWatch(w) || slices.ContainsFunc(b.Watches[:i], func(x api.Watch) bool { return x.Name == w.Name }) {
			return w.Line, 160
		}
	}
	return 0, 0
}

// plainFind is Find by the chapter's words.
func plainFind(b api.Book, table, key string) (string, bool) {
	i := slices.IndexFunc(b.Tables, func(t api.Table) bool { return t.Name == table })
	if i < 0 {
		return "", false
	}
	t := b.Tables[i]
	k := slices.IndexFunc(t.Keys, func(p api.Param) bool { return p.Name == key })
	if k < 0 {
		return t.Else, true
	}
	return t.Keys[k].Value, true
}
