package layers

import (
	"bytes"
	"go/ast"
	"go/format"
	"go/parser"
	"go/token"
	"io/fs"
	"os"
	"path/filepath"
	"slices"
	"strconv"
	"strings"
	"testing"
)

// mayCall is the document's map: which packages a layer calls.
const mayCall = `
octet api
crc api
stamp api
utf api
ber api octet
oid api octet
value api utf ber oid
pdu api ber oid value
trap api ber pdu
quote api utf
syslog api stamp utf quote
frame api
glob api
lex api
parse api stamp lex
check api utf oid quote glob parse
field api stamp utf oid value quote glob check
norm api octet utf field
heap api
board api norm
hold api norm heap
watch api glob check norm board hold
ticket api octet crc norm board
outbox api board ticket
disk api
record api octet crc
journal api octet disk record
state api octet crc check norm watch ticket outbox
spec api octet trap syslog field norm watch state
query api stamp glob lex state
console api frame ticket disk journal state spec query
link api
yard api ticket disk console link
script api stamp trap check state console yard
`

// library is what may be imported of it.
const library = ` bytes cmp container/heap errors iter maps math math/bits slices sort strconv strings sync sync/atomic unicode unicode/utf8 `

// mostLines is of a function, from its first line to its last.
const mostLines = 60

type source struct {
	path string
	text []byte
	set  *token.FileSet
	file *ast.File
}

// sources are all Go files of the program, but tests and what is laid beside it.
func sources(t *testing.T) []source {
	var all []source
	err := filepath.WalkDir("..", func(path string, d fs.DirEntry, err error) error {
		if err != nil {
			return err
		}
		if d.IsDir() && (d.Name() == ".git" || d.Name() == "sharedtests") {
			return filepath.SkipDir
		}
		if d.IsDir() || filepath.Ext(path) != ".go" || strings.HasSuffix(path, "_test.go") {
			return nil
		}
		text, err := os.ReadFile(path)
		if err != nil {
			return err
		}
		set := token.NewFileSet()
		file, err := parser.ParseFile(set, path, text, parser.ParseComments)
		all = append(all, source{path, text, set, file})
		return err
	})
	if err != nil {
		t.Fatal(err)
	}
	return all
}

func called() map[string][]string {
	m := map[string][]string{}
	for line := range strings.Lines(strings.TrimSpace(mayCall)) {
		words := strings.Fields(line)
		m[words[0]] = words[1:]
	}
	return m
}

func TestLayersCallWhatTheyMay(t *testing.T) {
	layers := called()
	seen := map[string]bool{}
	for _, s := range sources(t) {
		layer := filepath.Base(filepath.Dir(s.path))
		seen[layer] = true
		for _, spec := range s.file.Imports {
			path, err := strconv.Unquote(spec.Path.Value)
			if err != nil {
				t.Fatal(err)
			}
			own, ok := strings.CutPrefix(path, "gong/")
			_, other := layers[own]
			switch may, is := layers[layer]; {
			case !ok && !strings.Contains(library, " "+path+" "):
				t.Errorf("%s imports %s", s.path, path)
			case ok && is && other && !slices.Contains(may, own):
				t.Errorf("%s calls layer %s", s.path, own)
			}
		}
	}
	for layer := range layers {
		if !seen[layer] {
			t.Errorf("no package %s", layer)
		}
	}
}

func TestFunctionsAreShort(t *testing.T) {
	for _, s := range sources(t) {
		for _, d := range s.file.Decls {
			f, ok := d.(*ast.FuncDecl)
			if ok && s.set.Position(f.End()).Line-s.set.Position(f.Pos()).Line >= mostLines {
				t.Errorf("%s: %s is long", s.path, f.Name.Name)
			}
		}
	}
}

func TestLayoutAndLines(t *testing.T) {
	for _, s := range sources(t) {
		laid, err := format.Source(s.text)
		if err != nil || !bytes.Equal(laid, s.text) {
			t.Errorf("%s: not gofmt's layout: %v", s.path, err)
		}
		for _, group := range s.file.Comments {
			for _, c := range group.List {
				if strings.HasPrefix(c.Text, "//go:") || strings.HasPrefix(c.Text, "// +build") {
					t.Errorf("%s: %s", s.path, c.Text)
				}
			}
		}
	}
}
