package check

import "gong/api"

// tableIsRight tells whether t is, whatever tables there are ahead of it; so do
// ruleIsRight and watchIsRight of theirs.
func tableIsRight(t api.Table) bool {
	if len(t.Keys) > mostKeys {
		return false
	}
	keys := names{}
	for _, k := range t.Keys {
		if !keys.isNew(k.Name) {
			return false
		}
	}
	return true
}

// Find is what the first table of that name tells of key. Tables behind it count for
// nothing, though they have the key, and it has not.
func Find(b api.Book, table, key string) (string, bool) {
	for _, t := range b.Tables {
		if t.Name == table {
			return told(t, key), true
		}
	}
	return "", false
}

func told(t api.Table, key string) string {
	for _, k := range t.Keys {
		if k.Name == key {
			return k.Value
		}
	}
	return t.Else
}
